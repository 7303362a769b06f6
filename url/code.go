package url

import "strings"

// Enc is a text encoded.
func Enc(s string) string {
	return string(encodedOn(nil, s))
}

// encodedOn writes a text, encoded, behind what is written already.
func encodedOn(out []byte, s string) []byte {
	const digits = "0123456789ABCDEF"
	for i := range len(s) {
		switch c := s[i]; {
		case standsInCode(c):
			out = append(out, c)
		case c == ' ':
			out = append(out, '+')
		default:
			out = append(out, '%', digits[c>>4], digits[c&15])
		}
	}
	return out
}

// standsInCode tells whether a byte stands for itself in what is encoded.
func standsInCode(c byte) bool {
	switch c {
	case '-', '_', '.':
		return true
	}
	return 'A' <= c && c <= 'Z' || 'a' <= c && c <= 'z' || '0' <= c && c <= '9'
}

// Dec is a text decoded.
func Dec(s string) string {
	var out strings.Builder
	out.Grow(len(s))
	for i := 0; i < len(s); i++ {
		c, isCode := codeAhead(s[i:])
		switch {
		case isCode:
			out.WriteByte(c)
			i += codeBytes - 1
		case s[i] == '+':
			out.WriteByte(' ')
		default:
			out.WriteByte(s[i])
		}
	}
	return out.String()
}

// codeBytes is how many bytes a byte's code has.
const codeBytes = len("%00")

// codeAhead is the byte whose code a text begins with.
func codeAhead(s string) (byte, bool) {
	if len(s) < codeBytes || s[0] != '%' {
		return 0, false
	}
	high, highOk := hexDigit(s[1])
	low, lowOk := hexDigit(s[2])
	if !highOk || !lowOk {
		return 0, false
	}
	return high<<4 | low, true
}

// hexDigit is what a hexadecimal digit counts.
func hexDigit(c byte) (byte, bool) {
	switch {
	case '0' <= c && c <= '9':
		return c - '0', true
	case 'A' <= c && c <= 'F':
		return c - 'A' + 10, true
	case 'a' <= c && c <= 'f':
		return c - 'a' + 10, true
	}
	return 0, false
}
