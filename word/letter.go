package word

import "strings"

// wordLen is how many bytes the word at the beginning has; 0, if there is none.
func wordLen(s string) int {
	if s == "" || isDigit(rune(s[0])) {
		return 0
	}
	return runLen(s, inWord)
}

func isWord(s string) bool {
	return s != "" && wordLen(s) == len(s)
}

// runLen is how many bytes at the beginning are of a kind.
func runLen(s string, kind func(rune) bool) int {
	for at, r := range s {
		if !kind(r) {
			return at
		}
	}
	return len(s)
}

func isDigit(r rune) bool {
	return '0' <= r && r <= '9'
}

func isHex(r rune) bool {
	return isDigit(r) || 'a' <= r && r <= 'f' || 'A' <= r && r <= 'F'
}

func inWord(r rune) bool {
	return 'a' <= r && r <= 'z' || 'A' <= r && r <= 'Z' || isDigit(r) || r == '_'
}

// small is a text with its letters small. Just A to Z are turned: the library's own way takes runes that are no letters here for letters.
func small(s string) string {
	return strings.Map(func(r rune) rune {
		if 'A' <= r && r <= 'Z' {
			return r - 'A' + 'a'
		}
		return r
	}, s)
}
