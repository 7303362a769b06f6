package url

import (
	"ostler/api"
	"ostler/conv"
)

// Build is the query that says a list.
func Build(v api.Value) (string, api.Errno) {
	if v.Kind != api.List {
		return "", api.ErrArg
	}
	var w writer
	for _, item := range v.Items {
		w.name = encodedOn(w.name[:0], keyText(item.Key))
		w.write(item.V)
	}
	return string(w.out), api.OK
}

// writer writes a query. The name is kept encoded and grows and shrinks in place, as names within many lists are long.
type writer struct {
	out  []byte
	name []byte
}

// write writes the pairs of a value under the name.
func (w *writer) write(v api.Value) {
	switch v.Kind {
	case api.Bool, api.Int:
		w.pair(conv.Digits(conv.Number(v)))
	case api.Text:
		w.pair(v.Text)
	case api.List:
		outer := len(w.name)
		for _, item := range v.Items {
			w.name = encodedOn(w.name[:outer], "["+keyText(item.Key)+"]")
			w.write(item.V)
		}
	}
}

// pair writes the name and a text.
func (w *writer) pair(text string) {
	if len(w.out) > 0 {
		w.out = append(w.out, '&')
	}
	w.out = append(w.out, w.name...)
	w.out = append(w.out, '=')
	w.out = encodedOn(w.out, text)
}

// keyText is a key as it stands in a name.
func keyText(k api.Key) string {
	if k.IsText {
		return k.Text
	}
	return conv.Digits(k.Int)
}
