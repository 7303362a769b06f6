package list

import (
	"slices"
	"testing"

	"ostler/api"
)

// three is a list of three items.
func three(t *testing.T) (*List[string], []pair) {
	t.Helper()
	l := New[string]()
	add(t, l, "a", 0)
	set(t, l, word("k"), "b")
	add(t, l, "c", 1)
	return l, []pair{{num(0), "a"}, {word("k"), "b"}, {num(1), "c"}}
}

// turns are the ways to turn a list of three, with what becomes of it.
func turns() []struct {
	name string
	turn func(l *List[string])
	next int
	want []pair
} {
	a, b, c := pair{num(0), "a"}, pair{word("k"), "b"}, pair{num(1), "c"}
	return []struct {
		name string
		turn func(l *List[string])
		next int
		want []pair
	}{
		{"set one that is there", func(l *List[string]) { l.Set(word("k"), "x") }, 2, []pair{a, {word("k"), "x"}, c}},
		{"set a new one", func(l *List[string]) { l.Set(word("n"), "x") }, 2, []pair{a, b, c, {word("n"), "x"}}},
		{"set a number above", func(l *List[string]) { l.Set(num(9), "x") }, 10, []pair{a, b, c, {num(9), "x"}}},
		{"append", func(l *List[string]) { l.Append("x") }, 3, []pair{a, b, c, {num(2), "x"}}},
		{"take the first away", func(l *List[string]) { l.Del(num(0)) }, 2, []pair{b, c}},
		{"take the last away", func(l *List[string]) { l.Del(num(1)) }, 2, []pair{a, b}},
		{"take the last away and append", func(l *List[string]) { l.Del(num(1)); l.Append("x") }, 3, []pair{a, b, {num(2), "x"}}},
		{"take all away", func(l *List[string]) { l.Del(word("k")); l.Del(num(0)); l.Del(num(1)) }, 2, nil},
		{"take what is not there", func(l *List[string]) { l.Del(num(7)) }, 2, []pair{a, b, c}},
		{"append two", func(l *List[string]) { l.Append("x"); l.Append("y") }, 4, []pair{a, b, c, {num(2), "x"}, {num(3), "y"}}},
	}
}

// TestP7_2_Apart: whatever becomes of a copy, or of what it was made of, the other stays as it is.
func TestP7_2_Apart(t *testing.T) {
	for _, first := range turns() {
		for _, second := range turns() {
			l, was := three(t)
			c := l.Copy()
			check(t, c, 2, was...)
			first.turn(c)
			check(t, c, first.next, first.want...)
			check(t, l, 2, was...)
			second.turn(l)
			check(t, l, second.next, second.want...)
			check(t, c, first.next, first.want...)

			l, was = three(t)
			c = l.Copy()
			first.turn(l)
			check(t, l, first.next, first.want...)
			check(t, c, 2, was...)
			second.turn(c)
			check(t, c, second.next, second.want...)
			check(t, l, first.next, first.want...)
		}
	}
}

// TestP7_2_Many: copies of copies, and several of one.
func TestP7_2_Many(t *testing.T) {
	l, was := three(t)
	all := []*List[string]{l}
	for range 5 {
		all = append(all, all[len(all)-1].Copy(), l.Copy())
	}
	for i, one := range all {
		key := word("own")
		set(t, one, key, string(rune('A'+i)))
		take(t, one, num(0), true)
	}
	for i, one := range all {
		check(t, one, 2, was[1], was[2], pair{word("own"), string(rune('A' + i))})
	}
}

// TestP7_2_Empty: a copy of a list without items is one that may be filled, with the same next number.
func TestP7_2_Empty(t *testing.T) {
	l := New[string]()
	c := l.Copy()
	add(t, c, "a", 0)
	check(t, l, 0)
	take(t, c, num(0), true)
	d := c.Copy()
	check(t, d, 1)
	add(t, d, "b", 1)
	check(t, c, 1)
	check(t, l, 0)
}

// TestP7_2_Refused: what is refused on one of both turns neither.
func TestP7_2_Refused(t *testing.T) {
	l := full(t)
	c := l.Copy()
	want := pairs(l)
	if why := c.Set(word("n"), "x"); why != api.ErrFull {
		t.Fatalf("Set = %v", why)
	}
	take(t, c, num(0), true)
	add(t, c, "x", api.MaxItems)
	check(t, l, api.MaxItems, want...)
	if _, why := l.Append("x"); why != api.ErrFull {
		t.Fatalf("Append = %v", why)
	}
}

// TestCopyIsCheap: a copy of a long list takes no more than one of a short one.
func TestCopyIsCheap(t *testing.T) {
	short, long := New[string](), full(t)
	add(t, short, "a", 0)
	cost := func(l *List[string]) float64 {
		return testing.AllocsPerRun(100, func() { l.Copy() })
	}
	if cost(long) > cost(short) {
		t.Errorf("a copy of a long list takes %v pieces of memory, of a short one %v", cost(long), cost(short))
	}
}

// TestP7_3_Turned: what becomes of the list while it is gone over is not seen, and is there behind it.
func TestP7_3_Turned(t *testing.T) {
	for _, c := range turns() {
		for when := range 3 {
			l, was := three(t)
			var seen []pair
			for k, v := range l.All() {
				if len(seen) == when {
					c.turn(l)
					check(t, l, c.next, c.want...)
				}
				seen = append(seen, pair{k, v})
			}
			if !slices.Equal(seen, was) {
				t.Errorf("%s at %d: seen are %v", c.name, when, seen)
			}
			check(t, l, c.next, c.want...)
		}
	}
}

// TestP7_3_Each: a list that is turned at each item.
func TestP7_3_Each(t *testing.T) {
	l, was := three(t)
	var seen []pair
	for k, v := range l.All() {
		seen = append(seen, pair{k, v})
		take(t, l, k, true)
		l.Append(v + v)
	}
	if !slices.Equal(seen, was) {
		t.Errorf("seen are %v", seen)
	}
	check(t, l, 5, pair{num(2), "aa"}, pair{num(3), "bb"}, pair{num(4), "cc"})
}

// TestP7_3_Begun: what counts is where the going over begins, not where All is called; it may be begun again.
func TestP7_3_Begun(t *testing.T) {
	l := New[string]()
	add(t, l, "a", 0)
	over := l.All()
	add(t, l, "b", 1)
	collect := func() (all []pair) {
		for k, v := range over {
			all = append(all, pair{k, v})
		}
		return all
	}
	if got := collect(); !slices.Equal(got, []pair{{num(0), "a"}, {num(1), "b"}}) {
		t.Errorf("first: %v", got)
	}
	take(t, l, num(0), true)
	set(t, l, num(1), "c")
	if got := collect(); !slices.Equal(got, []pair{{num(1), "c"}}) {
		t.Errorf("again: %v", got)
	}
}

// TestP7_3_Left: a going over may be left at any item, and turns nothing by it.
func TestP7_3_Left(t *testing.T) {
	l, was := three(t)
	for many := 1; many <= 3; many++ {
		var seen []pair
		for k, v := range l.All() {
			seen = append(seen, pair{k, v})
			if len(seen) == many {
				break
			}
		}
		if !slices.Equal(seen, was[:many]) {
			t.Errorf("left behind %d: %v", many, seen)
		}
		check(t, l, 2, was...)
	}
	func() {
		defer func() { recover() }()
		for range l.All() {
			panic("left")
		}
	}()
	check(t, l, 2, was...)
	add(t, l, "d", 2)
	check(t, l, 3, append(was, pair{num(2), "d"})...)
}

// TestP7_3_Within: a going over within one another sees the list as it is then.
func TestP7_3_Within(t *testing.T) {
	l := New[string]()
	add(t, l, "a", 0)
	add(t, l, "b", 1)
	over := l.All()
	var outer, inner []string
	for _, v := range over {
		outer = append(outer, v)
		l.Append(v + "+")
		for k, w := range over {
			inner = append(inner, w)
			l.Set(k, w+"!")
		}
	}
	if want := []string{"a", "b"}; !slices.Equal(outer, want) {
		t.Errorf("outer: %v", outer)
	}
	if want := []string{"a", "b", "a+", "a!", "b!", "a+!", "b+"}; !slices.Equal(inner, want) {
		t.Errorf("inner: %v", inner)
	}
	check(t, l, 4, pair{num(0), "a!!"}, pair{num(1), "b!!"}, pair{num(2), "a+!!"}, pair{num(3), "b+!"})
}

// TestP7_3_Copied: a copy made while the list is gone over is of the list as it is then.
func TestP7_3_Copied(t *testing.T) {
	l, was := three(t)
	var copies []*List[string]
	for k := range l.All() {
		copies = append(copies, l.Copy())
		l.Del(k)
	}
	for i, c := range copies {
		check(t, c, 2, was[i:]...)
		add(t, c, "x", 2)
	}
	check(t, l, 2)
}
