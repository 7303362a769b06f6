package cut

import "strings"

// codeEnd is the place of the `?>` that ends the code from a place on; without one the file's end.
func codeEnd(file string, from int) int {
	at := from
code:
	for at < len(file) {
		rest := file[at:]
		switch {
		case strings.HasPrefix(rest, "?>"):
			break code
		case rest[0] == '\'' || rest[0] == '"':
			at += textLen(rest)
		case strings.HasPrefix(rest, "/*"):
			at += commentLen(rest)
		case strings.HasPrefix(rest, "//") || rest[0] == '#':
			at += remarkLen(rest)
		case strings.HasPrefix(rest, "<<<"):
			at += longLen(rest)
		default:
			at++
		}
	}
	return at
}

// textLen is how many bytes the text has that the first byte begins; what does not end goes on up to the end.
func textLen(s string) int {
	at := 1
text:
	for at < len(s) {
		switch s[at] {
		case '\\':
			at += 2
		case s[0]:
			at++
			break text
		default:
			at++
		}
	}
	// A `\` may be the last byte of all.
	return min(at, len(s))
}

// commentLen is how many bytes the comment at the beginning has.
func commentLen(s string) int {
	const mark = "/*"
	_, behind, found := strings.Cut(s[len(mark):], "*/")
	if !found {
		return len(s)
	}
	return len(s) - len(behind)
}

// remarkLen is how many bytes the remark at the beginning has: unlike the others it does not hide a `?>`.
func remarkLen(s string) int {
	at := 0
	for at < len(s) && s[at] != '\n' && !strings.HasPrefix(s[at:], "?>") {
		at++
	}
	return at
}

// longLen is how many bytes the long text at the beginning has, with the name that ends it; 1, if the `<<<` begins none, for a later `<` may.
func longLen(s string) int {
	name, at := longHead(s)
	if name == "" {
		return 1
	}
	for at < len(s) {
		line := s[at:]
		if strings.HasPrefix(line, name) && wordLen(line) == len(name) {
			return at + len(name)
		}
		end := strings.IndexByte(line, '\n')
		if end < 0 {
			break
		}
		at += end + 1
	}
	return len(s)
}

// longHead is the name of the long text that a `<<<` begins, and where its first line begins; "" and 0, if it begins none.
func longHead(s string) (string, int) {
	const mark = "<<<"
	rest := s[len(mark):]
	quote := ""
	if strings.HasPrefix(rest, "'") {
		quote = "'"
	}
	rest = rest[len(quote):]
	name := rest[:wordLen(rest)]
	end := quote + "\n"
	if name == "" || !strings.HasPrefix(rest[len(name):], end) {
		return "", 0
	}
	return name, len(mark) + len(quote) + len(name) + len(end)
}

// wordLen is how many bytes the word at the beginning has; 0, if there is none.
func wordLen(s string) int {
	if s == "" || isDigit(s[0]) {
		return 0
	}
	n := 0
	for n < len(s) && inWord(s[n]) {
		n++
	}
	return n
}

func isDigit(b byte) bool {
	return '0' <= b && b <= '9'
}

func inWord(b byte) bool {
	return 'a' <= b && b <= 'z' || 'A' <= b && b <= 'Z' || isDigit(b) || b == '_'
}
