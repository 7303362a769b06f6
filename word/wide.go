package word

import (
	"strings"

	"ostler/api"
)

// wideText is a text in `"`. Of one that does not end, what is wrong in it comes ahead of that it does not end.
func wideText(s string) (api.Tok, int, api.Fault) {
	end := textEnd(s)
	inside := s[1:]
	if end >= 0 {
		inside = s[1:end]
	}
	tok, fault := wide(inside, true)
	switch {
	case fault.Why != api.OK:
		return fail(fault.Why, 1+fault.At)
	case end < 0:
		return fail(api.ErrOpen, 0)
	}
	return tok, end + 1, api.Fault{}
}

// wide is the token of a wide text's bytes; quoted, if they stand in `"`.
func wide(s string, quoted bool) (api.Tok, api.Fault) {
	var parts []api.Part
	var plain []byte
	for at := 0; at < len(s); {
		rest := s[at:]
		if rest[0] == '\\' {
			b, n := escaped(rest, quoted)
			plain = append(plain, b)
			at += n
			continue
		}
		if rest[0] != '$' || wordLen(rest[1:]) == 0 {
			plain = append(plain, rest[0])
			at++
			continue
		}
		part, n, fault := variablePart(rest)
		if fault.Why != api.OK {
			return api.Tok{}, api.Fault{Why: fault.Why, At: at + fault.At}
		}
		parts = append(withText(parts, plain), part)
		plain = nil
		at += n
	}
	if len(parts) == 0 {
		return text(string(plain)), api.Fault{}
	}
	return api.Tok{Kind: api.TokParts, Parts: withText(parts, plain)}, api.Fault{}
}

// withText puts a text behind parts, if it is not empty.
func withText(parts []api.Part, plain []byte) []api.Part {
	if len(plain) == 0 {
		return parts
	}
	return append(parts, api.Part{Kind: api.PartText, Text: string(plain)})
}

// escaped is the byte that a `\` and what stands behind it are, and how many bytes they have.
func escaped(s string, quoted bool) (byte, int) {
	if len(s) == 1 {
		return '\\', 1
	}
	switch s[1] {
	case 'n':
		return '\n', 2
	case 't':
		return '\t', 2
	case 'r':
		return '\r', 2
	case '\\', '$':
		return s[1], 2
	case 'x':
		return hexByte(s)
	case '"':
		if quoted {
			return '"', 2
		}
	}
	return '\\', 1
}

// hexByte is the byte that a `\x` and one or two hexadecimal digits are; without a digit the `\` is itself.
func hexByte(s string) (byte, int) {
	digits := s[2:min(4, len(s))]
	n := runLen(digits, isHex)
	if n == 0 {
		return '\\', 1
	}
	value := 0
	for _, r := range digits[:n] {
		value = value*16 + hexValue(r)
	}
	return byte(value), 2 + n
}

func hexValue(r rune) int {
	switch {
	case isDigit(r):
		return int(r - '0')
	case r >= 'a':
		return int(r-'a') + 10
	}
	return int(r-'A') + 10
}

// variablePart is the part that a `$` and a word begin, and how many bytes it has.
func variablePart(s string) (api.Part, int, api.Fault) {
	end := 1 + wordLen(s[1:])
	part := api.Part{Kind: api.PartVar, Text: s[1:end]}
	if len(part.Text) > api.MaxName {
		return failPart(api.ErrLong, 0)
	}
	key := end
	switch rest := s[end:]; {
	case strings.HasPrefix(rest, "["):
		element, n := elementPart(rest)
		if n == 0 {
			return failPart(api.ErrForm, end)
		}
		part.Kind, part.Key = element.Kind, element.Key
		key, end = end+1, end+n
	case strings.HasPrefix(rest, "->"):
		n := wordLen(rest[2:])
		if n > 0 {
			part.Kind, part.Key = api.PartProp, rest[2:2+n]
			key, end = end+2, end+2+n
		}
	}
	if part.Kind != api.PartInt && len(part.Key) > api.MaxName {
		return failPart(api.ErrLong, key)
	}
	return part, end, api.Fault{}
}

func failPart(why api.Errno, at int) (api.Part, int, api.Fault) {
	return api.Part{}, 0, api.Fault{Why: why, At: at}
}

// elementPart is the kind and the key of what stands in `[` and `]` at the beginning, and how many bytes it has; 0, if it may not stand there.
func elementPart(s string) (api.Part, int) {
	inside, _, found := strings.Cut(s[1:], "]")
	if !found {
		return api.Part{}, 0
	}
	n := len(inside) + 2
	word, by := strings.CutPrefix(inside, "$")
	switch {
	case isKeyNumber(inside):
		return api.Part{Kind: api.PartInt, Key: inside}, n
	case !isWord(word):
		return api.Part{}, 0
	case by:
		return api.Part{Kind: api.PartBy, Key: word}, n
	}
	return api.Part{Kind: api.PartKey, Key: word}, n
}

// isKeyNumber tells whether a text is a number's own form: no 0 ahead, and no `-0`.
func isKeyNumber(s string) bool {
	if s == "0" {
		return true
	}
	digits := strings.TrimPrefix(s, "-")
	return digits != "" && digits[0] != '0' && runLen(digits, isDigit) == len(digits)
}
