package word

import (
	"strings"

	"ostler/api"
)

// head is what a long text begins with: its name, whether it stands in `'`, and how many bytes there are ahead of the first line.
type head struct {
	name  string
	plain bool
	size  int
}

// longHead is the head of the long text at the beginning; without a name, if there is none.
func longHead(s string) head {
	const mark = "<<<"
	rest, found := strings.CutPrefix(s, mark)
	if !found {
		return head{}
	}
	quote := ""
	if strings.HasPrefix(rest, "'") {
		quote = "'"
	}
	word := rest[len(quote):]
	name := word[:wordLen(word)]
	end := quote + "\n"
	if name == "" || !strings.HasPrefix(word[len(name):], end) {
		return head{}
	}
	return head{name, quote != "", len(mark) + len(quote) + len(name) + len(end)}
}

// longText is the long text at the beginning.
func longText(s string, h head) (api.Tok, int, api.Fault) {
	n := linesLen(s[h.size:], h.name)
	if n < 0 {
		return fail(api.ErrOpen, 0)
	}
	size := h.size + n + len(h.name)
	inside := strings.TrimSuffix(s[h.size:h.size+n], "\n")
	if h.plain {
		return text(inside), size, api.Fault{}
	}
	tok, fault := wide(inside, false)
	if fault.Why != api.OK {
		return fail(fault.Why, h.size+fault.At)
	}
	return tok, size, api.Fault{}
}

// linesLen is how many bytes there are ahead of the first line that begins with a name, and no longer word; -1, if there is none.
func linesLen(s string, name string) int {
	at := 0
	for {
		line := s[at:]
		if strings.HasPrefix(line, name) && wordLen(line) == len(name) {
			return at
		}
		end := strings.IndexByte(line, '\n')
		if end < 0 {
			return -1
		}
		at += end + 1
	}
}
