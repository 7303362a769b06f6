package list

import (
	"math"
	"strconv"

	"ostler/api"
)

// noNumber is told as the next number of a list that has none.
const noNumber = -1

// longest is how many bytes the digits of a number have at most: those of -2^63.
const longest = 20

// Norm is a key's one form.
func Norm(k api.Key) api.Key {
	if !k.IsText {
		return api.Key{Int: k.Int}
	}
	if n, ok := number(k.Text); ok {
		return api.Key{Int: n}
	}
	return api.Key{IsText: true, Text: k.Text}
}

// number is the number whose digits a text is, if it is one's. The length is asked first, as the library would copy a long text to tell what is wrong with it.
func number(s string) (int, bool) {
	if len(s) > longest {
		return 0, false
	}
	n, err := strconv.Atoi(s)
	if err != nil || strconv.Itoa(n) != s {
		return 0, false
	}
	return n, true
}

// nextBehind is the next number when an item has come under a key.
func nextBehind(next int, k api.Key) int {
	if k.IsText || next == noNumber || k.Int < next {
		return next
	}
	if k.Int == math.MaxInt {
		return noNumber
	}
	return k.Int + 1
}
