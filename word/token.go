package word

import (
	"strconv"
	"strings"

	"ostler/api"
)

// token is the token that a text that is not empty begins with, and how many bytes it has. A fault's place is counted from the token's first byte.
func token(s string) (api.Tok, int, api.Fault) {
	switch first := s[0]; {
	case first == '$':
		return variable(s)
	case isDigit(rune(first)):
		return number(s)
	case first == '\'':
		return plainText(s)
	case first == '"':
		return wideText(s)
	case first == '\\' || inWord(rune(first)):
		return name(s)
	}
	if h := longHead(s); h.name != "" {
		return longText(s, h)
	}
	n := signLen(s)
	if n == 0 {
		return fail(api.ErrForm, 0)
	}
	return sign(s[:n]), n, api.Fault{}
}

func fail(why api.Errno, at int) (api.Tok, int, api.Fault) {
	return api.Tok{}, 0, api.Fault{Why: why, At: at}
}

func sign(s string) api.Tok {
	return api.Tok{Kind: api.TokSign, Text: s}
}

func text(s string) api.Tok {
	return api.Tok{Kind: api.TokText, Text: s}
}

func variable(s string) (api.Tok, int, api.Fault) {
	n := wordLen(s[1:])
	switch {
	case n == 0:
		return fail(api.ErrForm, 0)
	case n > api.MaxName:
		return fail(api.ErrLong, 0)
	}
	return api.Tok{Kind: api.TokVar, Text: s[1 : 1+n]}, 1 + n, api.Fault{}
}

// name is a name or a keyword. That a `\` has no word behind it is told ahead of the name's length.
func name(s string) (api.Tok, int, api.Fault) {
	n, formed := nameLen(s)
	switch {
	case !formed:
		return fail(api.ErrForm, n)
	case n > api.MaxName:
		return fail(api.ErrLong, 0)
	case Key(s[:n]):
		return sign(small(s[:n])), n, api.Fault{}
	}
	return api.Tok{Kind: api.TokName, Text: s[:n]}, n, api.Fault{}
}

// nameLen is how many bytes the name at the beginning has, of any length; if it is not formed, how many there are ahead of the `\` behind which no word stands.
func nameLen(s string) (int, bool) {
	at := wordLen(s)
	for strings.HasPrefix(s[at:], `\`) {
		n := wordLen(s[at+1:])
		if n == 0 {
			return at, false
		}
		at += 1 + n
	}
	return at, true
}

func number(s string) (api.Tok, int, api.Fault) {
	n, digits, base := numberParts(s)
	if n < len(s) && inWord(rune(s[n])) {
		return fail(api.ErrNum, 0)
	}
	value, err := strconv.ParseInt(digits, base, 64)
	if err != nil {
		return fail(api.ErrNum, 0)
	}
	return api.Tok{Kind: api.TokInt, Int: int(value)}, n, api.Fault{}
}

// numberParts are how many bytes the number at the beginning has, its digits, and their base.
func numberParts(s string) (int, string, int) {
	if strings.HasPrefix(s, "0x") || strings.HasPrefix(s, "0X") {
		if n := runLen(s[2:], isHex); n > 0 {
			return 2 + n, s[2 : 2+n], 16
		}
	}
	n := 1
	if s[0] != '0' {
		n = runLen(s, isDigit)
	}
	return n, s[:n], 10
}

// plainText is a text in `'`.
func plainText(s string) (api.Tok, int, api.Fault) {
	end := textEnd(s)
	if end < 0 {
		return fail(api.ErrOpen, 0)
	}
	inside := s[1:end]
	told := make([]byte, 0, len(inside))
	for at := 0; at < len(inside); at++ {
		rest := inside[at:]
		if strings.HasPrefix(rest, `\'`) || strings.HasPrefix(rest, `\\`) {
			at++
		}
		told = append(told, inside[at])
	}
	return text(string(told)), end + 1, api.Fault{}
}

// textEnd is the place of the byte that ends the text that the first byte begins; -1, if it does not end.
func textEnd(s string) int {
	quote := rune(s[0])
	hidden := false
	for at, r := range s[1:] {
		switch {
		case hidden:
			hidden = false
		case r == '\\':
			hidden = true
		case r == quote:
			return 1 + at
		}
	}
	return -1
}
