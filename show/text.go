package show

import "ostler/api"

// inTexts are what nodes among the bytes of a text are written as.
func inTexts() table {
	return table{
		"var":   (*writer).variable,
		"index": (*writer).indexInText,
		"field": (*writer).fieldInText,
	}
}

// keysInTexts are what the keys of items among the bytes of a text are written as.
func keysInTexts() table {
	return table{
		"int":  (*writer).number,
		"text": (*writer).bareText,
		"var":  (*writer).variable,
	}
}

func (w *writer) plainText(n api.Node) {
	w.put("'")
	for i := 0; i < len(n.Text) && !w.long; i++ {
		if b := n.Text[i]; b == '\'' || b == '\\' {
			w.put(`\`)
		}
		w.put(n.Text[i : i+1])
	}
	w.put("'")
}

func (w *writer) parts(n api.Node) {
	w.put(`"`)
	for i, part := range n.Kids {
		if part.Op == "text" {
			w.wideText(part.Text, i > 0)
		} else {
			w.by(w.inTexts, part)
		}
	}
	w.put(`"`)
}

// wideText writes a text among others. Behind a variable its first byte is told by its number, so that it can't go on from that.
func (w *writer) wideText(text string, following bool) {
	for i := 0; i < len(text) && !w.long; i++ {
		if following && i == 0 {
			w.put(hexEscape(text[0]))
		} else {
			w.put(escape(text[i]))
		}
	}
}

func hexEscape(b byte) string {
	const digits = "0123456789abcdef"
	return string([]byte{'\\', 'x', digits[b/16], digits[b%16]})
}

func escape(b byte) string {
	switch b {
	case '\n':
		return `\n`
	case '\t':
		return `\t`
	case '\r':
		return `\r`
	case '\\', '$', '"':
		return string([]byte{'\\', b})
	}
	return string([]byte{b})
}

func (w *writer) indexInText(n api.Node) {
	w.variable(kid(n, 0))
	w.put("[")
	w.by(w.keysInTexts, kid(n, 1))
	w.put("]")
}

func (w *writer) bareText(n api.Node) {
	w.put(n.Text)
}

func (w *writer) fieldInText(n api.Node) {
	w.variable(kid(n, 0))
	w.put("->", n.Text)
}
