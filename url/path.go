package url

import (
	"strings"

	"ostler/api"
)

// part is a part of a name's path: a key, or the next number of the list that it is in.
type part struct {
	isNext bool
	key    api.Key
}

// pathOf are the parts of a decoded name, the head first; none, if nothing is put under it.
func pathOf(name string) []part {
	start := strings.IndexByte(name, '[')
	if start < 0 {
		start = len(name)
	}
	if start == 0 {
		return nil
	}
	path := []part{keyPart(headOf(name[:start]))}
	brackets := name[start:]
	open := -1
steps:
	for i := range len(brackets) {
		switch {
		case open < 0 && brackets[i] != '[' || len(path) > api.MaxDeep:
			break steps
		case open < 0:
			open = i
		case brackets[i] == ']':
			path = append(path, stepOf(brackets[open+1:i]))
			open = -1
		}
	}
	if len(path) > api.MaxDeep {
		return nil
	}
	return path
}

// headOf is a name's head.
func headOf(s string) string {
	return strings.ReplaceAll(strings.ReplaceAll(s, " ", "_"), ".", "_")
}

// stepOf is the part that stands between two brackets.
func stepOf(s string) part {
	if s == "" {
		return part{isNext: true}
	}
	return keyPart(s)
}

func keyPart(s string) part {
	return part{key: api.Key{IsText: true, Text: s}}
}
