package conv

import "strconv"

// Numeric is a text's number, if it is one.
func Numeric(s string) (int, bool) {
	n, size := beginning(s)
	if size == 0 || size < len(s) {
		return 0, false
	}
	return n, true
}

// Begins is the number with which a text begins.
func Begins(s string) int {
	n, _ := beginning(s)
	return n
}

// Where in a numeric text a rune may stand.
const (
	ahead   = iota // among the blanks in front
	signed         // the number's sign
	counted        // among the digits
	behind         // among the blanks at the end
	outside        // not within it any more
)

// beginning is the number of a text's longest beginning that is numeric, and how many bytes that has: none, if there is none.
func beginning(s string) (number, size int) {
	from, to := 0, 0
	at := ahead
	for i, r := range s {
		at = place(at, r)
		if at == outside {
			break
		}
		size = i + 1
		switch at {
		case ahead:
			from = size
		case counted:
			to = size
		}
	}
	if to == 0 {
		return 0, 0
	}
	return limited(s[from:to]), size
}

// place is where a rune stands that comes behind one at that place.
func place(at int, r rune) int {
	switch {
	case '0' <= r && r <= '9' && at != behind:
		return counted
	case isBlank(r) && at == ahead:
		return ahead
	case isBlank(r) && at != signed:
		return behind
	case (r == '+' || r == '-') && at == ahead:
		return signed
	}
	return outside
}

func isBlank(r rune) bool {
	return r == ' ' || '\t' <= r && r <= '\r'
}

// limited is what a number's text says. The library's error is left aside: all it can tell here is that 64 bits do not hold the number, and then what it answers is the end that the number is past.
func limited(s string) int {
	n, _ := strconv.Atoi(s)
	return n
}
