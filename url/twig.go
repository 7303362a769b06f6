package url

import (
	"math"

	"ostler/api"
	"ostler/list"
)

// twig is a value in the tree that texts are put into. A list is opened only when a name leads to it, as what no name leads to may be of any size.
type twig struct {
	v     api.Value
	items *list.List[*twig] // of a list that was opened: those of v are not asked any more
}

// put puts a text under a decoded name; false, if nothing is put.
func (t *twig) put(name, text string) bool {
	path := pathOf(name)
	if len(path) == 0 {
		return false
	}
	last, path := t.follow(path)
	// Counted ahead of the first writing, as what can't be put whole must leave no trace.
	if t.countBut(last.under(path[0]))+len(path) > api.MaxItems {
		return false
	}
	return last.set(path[0], grown(path[1:], text)) == api.OK
}

// follow goes from list to list as far as there are any on a path, and tells the last one with what is left of the path there.
func (t *twig) follow(path []part) (*twig, []part) {
	for len(path) > 1 {
		one := t.under(path[0])
		if one == nil || one.v.Kind != api.List {
			break
		}
		t, path = one, path[1:]
	}
	return t, path
}

// under is the item of a list that a part of a path leads to; nil, if there is none.
func (t *twig) under(p part) *twig {
	if p.isNext {
		return nil
	}
	t.open()
	one, _ := t.items.Get(p.key)
	return one
}

// set puts an item into a list.
func (t *twig) set(p part, one *twig) api.Errno {
	t.open()
	if p.isNext {
		_, why := t.items.Append(one)
		return why
	}
	return t.items.Set(p.key, one)
}

// grown is what a text makes of the rest of a path: lists within one another, the text in the innermost.
func grown(path []part, text string) *twig {
	if len(path) == 0 {
		return &twig{v: api.Value{Kind: api.Text, Text: text}}
	}
	t := &twig{v: api.Value{Kind: api.List}}
	t.set(path[0], grown(path[1:], text))
	return t
}

// open makes a list one of layer 7. One with more items than that may hold stays shut: it counts too much for anything to be put.
func (t *twig) open() {
	if t.items != nil || len(t.v.Items) > api.MaxItems {
		return
	}
	t.items = list.New[*twig]()
	raise(t.items, t.v.Int)
	for _, item := range t.v.Items {
		t.items.Set(item.Key, &twig{v: item.V})
	}
}

// noNumber is told as the next number of a list that has none.
const noNumber = -1

// raise brings the next number of an empty list to what it was: only an item that comes and goes again does that, as keys may have been taken away.
func raise(l *list.List[*twig], next int) {
	var k api.Key
	switch {
	case next == noNumber:
		k.Int = math.MaxInt
	case next > 0:
		k.Int = next - 1
	default:
		return
	}
	l.Set(k, nil)
	l.Del(k)
}

// countBut is how many items there are in a value, but one that is to be replaced, and what is in it.
func (t *twig) countBut(gone *twig) int {
	if t.items == nil {
		return countOf(t.v.Items)
	}
	count := 0
	// Not by All, behind which the list would be copied at the next writing.
	for i := range t.items.Len() {
		if _, one, _ := t.items.At(i); one != gone {
			count += 1 + one.countBut(gone)
		}
	}
	return count
}

// countOf counts items, and those in their values. No cap is needed, as all of it is in the answer.
func countOf(items []api.Item) int {
	count := len(items)
	for _, item := range items {
		count += countOf(item.V.Items)
	}
	return count
}

// value is what has become of a value.
func (t *twig) value() api.Value {
	if t.items == nil {
		return copied(t.v)
	}
	v := api.Value{Kind: api.List, Int: t.items.Next()}
	for k, one := range t.items.All() {
		v.Items = append(v.Items, api.Item{Key: k, V: one.value()})
	}
	return v
}

// copied is a value that shares nothing with the one it is a copy of, as callers may write into what they were answered.
func copied(v api.Value) api.Value {
	var items []api.Item
	for _, item := range v.Items {
		items = append(items, api.Item{Key: item.Key, V: copied(item.V)})
	}
	v.Items = items
	return v
}
