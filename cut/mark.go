package cut

import (
	"strings"

	"ostler/api"
)

// opening is where code is opened: the place of its mark, and that of the code's first byte. Of kind 0 there is none, and mark is the file's end.
type opening struct {
	kind int
	mark int
	code int
}

// nextOpening is the first one from a place on.
func nextOpening(file string, from int) opening {
	for at := from; at < len(file); at++ {
		rest := file[at:]
		if strings.HasPrefix(rest, "<?=") {
			return opening{api.PieceEcho, at, at + len("<?=")}
		}
		if n := phpLen(rest); n > 0 {
			return opening{api.PieceCode, at, at + n}
		}
	}
	return opening{mark: len(file)}
}

// phpLen is how many bytes a `<?php` at the beginning has, with the blank that is left out behind it; 0, if there is none.
func phpLen(s string) int {
	const mark = "<?php"
	if len(s) < len(mark) || !strings.EqualFold(s[:len(mark)], mark) {
		return 0
	}
	rest := s[len(mark):]
	switch {
	case rest == "":
		return len(mark)
	case strings.HasPrefix(rest, "\r\n"):
		return len(mark) + 2
	case isBlank(rest[0]):
		return len(mark) + 1
	}
	return 0
}

// closingLen is how many bytes a `?>` at the beginning has, with the line's end that is left out behind it; 0 at the file's end.
func closingLen(s string) int {
	const mark = "?>"
	rest, found := strings.CutPrefix(s, mark)
	switch {
	case !found:
		return 0
	case strings.HasPrefix(rest, "\n"):
		return len(mark) + 1
	case strings.HasPrefix(rest, "\r\n"):
		return len(mark) + 2
	}
	return len(mark)
}

func isBlank(b byte) bool {
	return b == ' ' || b == '\t' || b == '\n' || b == '\r'
}
