package conv

import (
	"cmp"
	"strings"

	"ostler/api"
)

// Order is how two plain values stand.
func Order(a, b api.Value) (int, api.Errno) {
	if !isPlain(a) || !isPlain(b) {
		return 0, api.ErrType
	}
	if byTruths(a, b) || byTruths(b, a) {
		return cmp.Compare(truthNumber(a), truthNumber(b)), api.OK
	}
	m, aCounts := numberOf(a)
	n, bCounts := numberOf(b)
	if aCounts && bCounts {
		return cmp.Compare(m, n), api.OK
	}
	s, _ := Text(a)
	t, _ := Text(b)
	return strings.Compare(s, t), api.OK
}

func isPlain(v api.Value) bool {
	switch v.Kind {
	case api.Null, api.Bool, api.Int, api.Text:
		return true
	}
	return false
}

// byTruths tells whether two values stand by their truths because of what the first one is.
func byTruths(a, b api.Value) bool {
	return a.Kind == api.Bool || a.Kind == api.Null && b.Kind != api.Text
}

// numberOf is the number by which a value stands among numbers: that of an Int, or of a numeric text.
func numberOf(v api.Value) (int, bool) {
	switch v.Kind {
	case api.Int:
		return v.Int, true
	case api.Text:
		return Numeric(v.Text)
	}
	return 0, false
}

// Same tells whether two plain values are the same.
func Same(a, b api.Value) bool {
	if a.Kind != b.Kind {
		return false
	}
	switch a.Kind {
	case api.Null:
		return true
	case api.Bool:
		return (a.Int == 0) == (b.Int == 0)
	case api.Int:
		return a.Int == b.Int
	case api.Text:
		return a.Text == b.Text
	}
	return false
}
