package deep

import (
	"cmp"
	"slices"

	"ostler/api"
	"ostler/conv"
)

// Order is how two values stand.
func Order(a, b api.Value) (int, api.Errno) {
	if !Right(a) || !Right(b) {
		return 0, api.ErrArg
	}
	return order(a, b), api.OK
}

// Loose tells whether two values are equal, kinds aside.
func Loose(a, b api.Value) (bool, api.Errno) {
	n, why := Order(a, b)
	return n == 0 && why == api.OK, why
}

// order is how two values stand that may be.
func order(a, b api.Value) int {
	if n, why := conv.Order(a, b); why == api.OK {
		return n
	}
	switch {
	case isTruth(a) || isTruth(b):
		return cmp.Compare(truthRank(a), truthRank(b))
	case a.Kind == api.List && b.Kind == api.List:
		return orderItems(a.Items, b.Items)
	case a.Kind == api.Obj && b.Kind == api.Obj:
		return orderObjects(a, b)
	}
	return cmp.Compare(kindRank(a), kindRank(b))
}

// isTruth tells whether a value stands by its truth beside one with items, or an object.
func isTruth(v api.Value) bool {
	return v.Kind == api.Null || v.Kind == api.Bool
}

// truthRank puts what is true as a truth behind what is not.
func truthRank(v api.Value) int {
	if conv.Truth(v) {
		return 1
	}
	return 0
}

// kindRank puts an object behind what is plain, and a list behind both, whatever they are.
func kindRank(v api.Value) int {
	switch v.Kind {
	case api.List:
		return 2
	case api.Obj:
		return 1
	}
	return 0
}

// orderItems is how two lists stand. All keys are looked for ahead of any value, as the lack of one decides, wherever it stands.
func orderItems(a, b []api.Item) int {
	if len(a) != len(b) {
		return cmp.Compare(len(a), len(b))
	}
	places := placesOf(b)
	for _, item := range a {
		if _, ok := places[item.Key]; !ok {
			return 1
		}
	}
	for _, item := range a {
		if n := order(item.V, b[places[item.Key]].V); n != 0 {
			return n
		}
	}
	return 0
}

// orderObjects is how two objects stand: unlike ones have no order among them, so either one is told as the later.
func orderObjects(a, b api.Value) int {
	if a.Int == b.Int {
		return 0
	}
	return 1
}

// Same tells whether two values are the same.
func Same(a, b api.Value) bool {
	return Count(a) <= api.MaxItems && Count(b) <= api.MaxItems && same(a, b)
}

// same tells whether two values are the same that have no more items than there may be.
func same(a, b api.Value) bool {
	if a.Kind != b.Kind {
		return false
	}
	switch a.Kind {
	case api.List:
		return slices.EqualFunc(a.Items, b.Items, sameItem)
	case api.Obj:
		return a.Int == b.Int
	}
	return conv.Same(a, b)
}

func sameItem(a, b api.Item) bool {
	return a.Key == b.Key && same(a.V, b.V)
}
