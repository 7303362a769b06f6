package list

import (
	"math"
	"slices"
	"strings"
	"testing"

	"ostler/api"
)

func num(n int) api.Key     { return api.Key{Int: n} }
func word(s string) api.Key { return api.Key{IsText: true, Text: s} }

// pair is a key and the text under it.
type pair struct {
	key api.Key
	v   string
}

// pairs are what a going over tells.
func pairs(l *List[string]) []pair {
	var all []pair
	for k, v := range l.All() {
		all = append(all, pair{k, v})
	}
	return all
}

// check holds all that can be asked of a list that somebody made.
func check(t *testing.T, l *List[string], next int, want ...pair) {
	t.Helper()
	if l == nil {
		t.Fatal("the list is nil")
	}
	if got := pairs(l); !slices.Equal(got, want) {
		t.Fatalf("All tells %v, not %v", got, want)
	}
	if l.Len() != len(want) || l.Next() != next {
		t.Fatalf("Len %d, Next %d, not %d, %d", l.Len(), l.Next(), len(want), next)
	}
	for i, one := range want {
		if k, v, ok := l.At(i); k != one.key || v != one.v || !ok {
			t.Fatalf("At(%d) = %v, %q, %v, not %v", i, k, v, ok, one)
		}
		if v, ok := l.Get(one.key); v != one.v || !ok {
			t.Fatalf("Get(%v) = %q, %v, not %q", one.key, v, ok, one.v)
		}
	}
	for _, i := range []int{-1, math.MinInt, len(want), len(want) + 1, math.MaxInt} {
		if k, v, ok := l.At(i); k != (api.Key{}) || v != "" || ok {
			t.Fatalf("At(%d) = %v, %q, %v", i, k, v, ok)
		}
	}
}

func set(t *testing.T, l *List[string], k api.Key, v string) {
	t.Helper()
	if why := l.Set(k, v); why != api.OK {
		t.Fatalf("Set(%v) = %v", k, why)
	}
}

func add(t *testing.T, l *List[string], v string, want int) {
	t.Helper()
	if k, why := l.Append(v); k != num(want) || why != api.OK {
		t.Fatalf("Append = %v, %v, not %d", k, why, want)
	}
}

func take(t *testing.T, l *List[string], k api.Key, want bool) {
	t.Helper()
	if got := l.Del(k); got != want {
		t.Fatalf("Del(%v) = %v", k, got)
	}
}

// full is a list with as many items as there may be, under numbers from 0 on.
func full(t *testing.T) *List[string] {
	t.Helper()
	l := New[string]()
	for i := range api.MaxItems {
		add(t, l, "x", i)
	}
	return l
}

// TestP7_1_New: a list without items.
func TestP7_1_New(t *testing.T) {
	l := New[string]()
	check(t, l, 0)
	for _, k := range []api.Key{num(0), num(-1), word(""), word("a"), {}} {
		if v, ok := l.Get(k); v != "" || ok {
			t.Errorf("Get(%v) = %q, %v", k, v, ok)
		}
		take(t, l, k, false)
	}
	check(t, l, 0)
	if m := New[string](); m == l {
		t.Error("New tells one list twice")
	}
}

// TestP7_1_Set: a new item comes last, one that is there stays where it is.
func TestP7_1_Set(t *testing.T) {
	l := New[string]()
	set(t, l, word("b"), "1")
	set(t, l, num(3), "2")
	set(t, l, word(""), "3")
	set(t, l, num(0), "4")
	check(t, l, 4, pair{word("b"), "1"}, pair{num(3), "2"}, pair{word(""), "3"}, pair{num(0), "4"})
	set(t, l, num(3), "5")
	set(t, l, word("b"), "6")
	set(t, l, num(0), "")
	check(t, l, 4, pair{word("b"), "6"}, pair{num(3), "5"}, pair{word(""), "3"}, pair{num(0), ""})
	take(t, l, word("b"), true)
	set(t, l, word("b"), "7")
	check(t, l, 4, pair{num(3), "5"}, pair{word(""), "3"}, pair{num(0), ""}, pair{word("b"), "7"})
}

// TestP7_1_Del: first, last and middle ones are taken away, and what there is not.
func TestP7_1_Del(t *testing.T) {
	l := New[string]()
	for i, v := range []string{"a", "b", "c", "d", "e"} {
		add(t, l, v, i)
	}
	take(t, l, num(0), true)
	check(t, l, 5, pair{num(1), "b"}, pair{num(2), "c"}, pair{num(3), "d"}, pair{num(4), "e"})
	take(t, l, num(4), true)
	check(t, l, 5, pair{num(1), "b"}, pair{num(2), "c"}, pair{num(3), "d"})
	take(t, l, num(2), true)
	check(t, l, 5, pair{num(1), "b"}, pair{num(3), "d"})
	for _, k := range []api.Key{num(0), num(2), num(4), num(5), num(-1), word("b"), word("")} {
		take(t, l, k, false)
		if v, ok := l.Get(k); v != "" || ok {
			t.Errorf("Get(%v) = %q, %v", k, v, ok)
		}
	}
	check(t, l, 5, pair{num(1), "b"}, pair{num(3), "d"})
	take(t, l, num(1), true)
	take(t, l, num(3), true)
	check(t, l, 5)
	add(t, l, "f", 5)
	check(t, l, 6, pair{num(5), "f"})
}

// TestP7_1_Next: what turns the next number, and what does not.
func TestP7_1_Next(t *testing.T) {
	l := New[string]()
	for _, c := range []struct {
		key  api.Key
		next int
	}{
		{num(-3), 0},
		{num(-1), 0},
		{num(math.MinInt), 0},
		{word("a"), 0},
		{word("-0"), 0},
		{word("05"), 0},
		{num(0), 1},
		{num(0), 1},
		{num(7), 8},
		{num(3), 8},
		{word("8"), 9},
		{word("7"), 9},
		{word("+90"), 9},
		{word("9223372036854775808"), 9},
		{word("9223372036854775806"), math.MaxInt},
		{num(12), math.MaxInt},
	} {
		set(t, l, c.key, "x")
		if l.Next() != c.next {
			t.Fatalf("behind Set(%v) Next is %d, not %d", c.key, l.Next(), c.next)
		}
	}
	for l.Len() > 0 {
		k, _, _ := l.At(0)
		take(t, l, k, true)
	}
	check(t, l, math.MaxInt)
}

// TestP7_1_NoNext: above 2^63 - 1 there is no number, whatever becomes of the list.
func TestP7_1_NoNext(t *testing.T) {
	l := New[string]()
	set(t, l, num(math.MaxInt-1), "a")
	add(t, l, "b", math.MaxInt)
	items := []pair{{num(math.MaxInt - 1), "a"}, {num(math.MaxInt), "b"}}
	refused := func(l *List[string]) {
		t.Helper()
		if k, why := l.Append("c"); k != (api.Key{}) || why != api.ErrFull {
			t.Fatalf("Append = %v, %v", k, why)
		}
	}
	check(t, l, -1, items...)
	refused(l)
	check(t, l, -1, items...)
	set(t, l, num(math.MaxInt), "d")
	set(t, l, num(0), "e")
	set(t, l, num(-1), "f")
	set(t, l, word("g"), "g")
	items = []pair{{num(math.MaxInt - 1), "a"}, {num(math.MaxInt), "d"}, {num(0), "e"}, {num(-1), "f"}, {word("g"), "g"}}
	check(t, l, -1, items...)
	for _, one := range items {
		take(t, l, one.key, true)
	}
	check(t, l, -1)
	refused(l)
	refused(l.Copy())
	check(t, l.Copy(), -1)
	set(t, l, word("9223372036854775807"), "h")
	check(t, l, -1, pair{num(math.MaxInt), "h"})

	m := New[string]()
	set(t, m, num(math.MaxInt), "a")
	check(t, m, -1, pair{num(math.MaxInt), "a"})
	refused(m)
}

// TestP7_1_Full: no item comes to a list with MaxItems, but what is there may be set; what is refused turns nothing.
func TestP7_1_Full(t *testing.T) {
	l := full(t)
	want := pairs(l)
	if k, why := l.Append("y"); k != (api.Key{}) || why != api.ErrFull {
		t.Fatalf("Append = %v, %v", k, why)
	}
	for _, k := range []api.Key{num(api.MaxItems), num(-1), num(math.MaxInt), word("a"), word(""), word("5000")} {
		if why := l.Set(k, "y"); why != api.ErrFull {
			t.Fatalf("Set(%v) = %v", k, why)
		}
		if v, ok := l.Get(k); v != "" || ok {
			t.Fatalf("Get(%v) = %q, %v", k, v, ok)
		}
	}
	check(t, l, api.MaxItems, want...)
	set(t, l, num(0), "y")
	set(t, l, word("2047"), "z")
	want[0].v, want[api.MaxItems-1].v = "y", "z"
	check(t, l, api.MaxItems, want...)
	c := l.Copy()
	if why := c.Set(word("a"), "y"); why != api.ErrFull {
		t.Fatalf("Set on a copy = %v", why)
	}
	take(t, l, num(5), true)
	add(t, l, "w", api.MaxItems)
	if why := l.Set(num(5), "y"); why != api.ErrFull {
		t.Fatalf("Set(5) = %v", why)
	}
	check(t, l, api.MaxItems+1, append(slices.Delete(slices.Clone(want), 5, 6), pair{num(api.MaxItems), "w"})...)
	check(t, c, api.MaxItems, want...)
}

// TestP7_1_Values: a list holds values of any kind, such as say nothing, too.
func TestP7_1_Values(t *testing.T) {
	l := New[api.Value]()
	l.Append(api.Value{Kind: api.Text, Text: "a"})
	l.Append(api.Value{})
	if v, ok := l.Get(num(1)); v.Kind != api.Null || !ok {
		t.Errorf("Get(1) = %v, %v", v, ok)
	}
	none := New[*int]()
	none.Set(word("n"), nil)
	if v, ok := none.Get(word("n")); v != nil || !ok || none.Len() != 1 {
		t.Errorf("Get = %v, %v, Len %d", v, ok, none.Len())
	}
}

// TestP7_5_Norm: a key's one form.
func TestP7_5_Norm(t *testing.T) {
	for _, c := range []struct {
		key, want api.Key
	}{
		{api.Key{}, num(0)},
		{num(5), num(5)},
		{num(-5), num(-5)},
		{num(math.MinInt), num(math.MinInt)},
		{api.Key{Int: 5, Text: "a"}, num(5)},
		{api.Key{Int: 5, Text: "6"}, num(5)},
		{api.Key{IsText: true, Int: 5}, word("")},
		{api.Key{IsText: true, Int: 5, Text: "a"}, word("a")},
		{api.Key{IsText: true, Int: 5, Text: "6"}, num(6)},
		{api.Key{IsText: true, Int: 5, Text: "06"}, word("06")},
		{word("0"), num(0)},
		{word("7"), num(7)},
		{word("10"), num(10)},
		{word("-1"), num(-1)},
		{word("-10"), num(-10)},
		{word("9223372036854775806"), num(math.MaxInt - 1)},
		{word("9223372036854775807"), num(math.MaxInt)},
		{word("-9223372036854775807"), num(math.MinInt + 1)},
		{word("-9223372036854775808"), num(math.MinInt)},
	} {
		if got := Norm(c.key); got != c.want {
			t.Errorf("Norm(%#v) = %#v, not %#v", c.key, got, c.want)
		}
	}
}

// TestP7_5_Texts: texts that are not a number's digits stay as they are.
func TestP7_5_Texts(t *testing.T) {
	for _, s := range []string{
		"", "-", "+", "--1", "-+1", "+1", "+0", "-0", "00", "05", "-05", "-00", "000",
		" 5", "5 ", "5\n", "\t5", "- 5", "5x", "x5", "5.0", "5.", ".5", "1e3", "0x5", "0b1", "0o7", "1_000", "1,000",
		"a", "true", "null", "\x00", "5\x00", "\xff", "5\xff", "\u0665", "\uff15", "\u22125",
		"9223372036854775808", "9223372036854775810", "-9223372036854775809", "10000000000000000000", "99999999999999999999", "-99999999999999999999",
		"18446744073709551616", "18446744073709551621", "09223372036854775807",
		strings.Repeat("1", 21), "-" + strings.Repeat("1", 20), strings.Repeat("0", 40) + "5", strings.Repeat("5", api.MaxText+1), strings.Repeat("a", api.MaxText+1),
	} {
		if got := Norm(word(s)); got != word(s) {
			t.Errorf("Norm of the text %.40q = %.80v", s, got)
		}
	}
}

// TestP7_5_Calls: every call brings keys into their one form, and tells them so.
func TestP7_5_Calls(t *testing.T) {
	forms := func(n int, s string) []api.Key {
		return []api.Key{num(n), {Int: n, Text: "a"}, word(s), {IsText: true, Int: 77, Text: s}}
	}
	for _, c := range []struct {
		n int
		s string
	}{{0, "0"}, {5, "5"}, {-5, "-5"}, {math.MaxInt, "9223372036854775807"}, {math.MinInt, "-9223372036854775808"}} {
		for _, put := range forms(c.n, c.s) {
			for _, ask := range forms(c.n, c.s) {
				l := New[string]()
				set(t, l, put, "a")
				if k, _, _ := l.At(0); k != num(c.n) {
					t.Fatalf("Set(%#v) puts it under %#v", put, k)
				}
				if v, ok := l.Get(ask); v != "a" || !ok {
					t.Fatalf("Set(%#v), Get(%#v) = %q, %v", put, ask, v, ok)
				}
				set(t, l, ask, "b")
				if v, ok := l.Get(put); l.Len() != 1 || v != "b" || !ok {
					t.Fatalf("Set(%#v), Set(%#v): Len %d, Get %q, %v", put, ask, l.Len(), v, ok)
				}
				take(t, l, ask, true)
				take(t, l, put, false)
			}
		}
	}
	l := New[string]()
	set(t, l, api.Key{IsText: true, Int: 9, Text: "k"}, "a")
	set(t, l, word("05"), "b")
	check(t, l, 0, pair{word("k"), "a"}, pair{word("05"), "b"})
	if v, ok := l.Get(num(5)); v != "" || ok {
		t.Errorf(`Get(5) of "05" = %q, %v`, v, ok)
	}
}

// TestP7_4_Nobodys: a list that nobody made has no items, and takes none.
func TestP7_4_Nobodys(t *testing.T) {
	made := New[string]()
	set(t, made, num(0), "a")
	set(t, made, word("k"), "b")
	doubled := *made
	var plain List[string]
	for name, l := range map[string]*List[string]{"nil": nil, "new": new(List[string]), "plain": &plain, "doubled": &doubled} {
		for range 2 {
			if l.Len() != 0 || l.Next() != -1 || l.Copy() != nil {
				t.Errorf("%s: Len %d, Next %d, Copy %v", name, l.Len(), l.Next(), l.Copy())
			}
			for _, k := range []api.Key{num(0), num(-1), word("k"), word("")} {
				if v, ok := l.Get(k); v != "" || ok {
					t.Errorf("%s: Get(%v) = %q, %v", name, k, v, ok)
				}
				if l.Del(k) {
					t.Errorf("%s: Del(%v) = true", name, k)
				}
				if why := l.Set(k, "c"); why != api.ErrNil {
					t.Errorf("%s: Set(%v) = %v", name, k, why)
				}
			}
			for _, i := range []int{0, 1, -1} {
				if k, v, ok := l.At(i); k != (api.Key{}) || v != "" || ok {
					t.Errorf("%s: At(%d) = %v, %q, %v", name, i, k, v, ok)
				}
			}
			if k, why := l.Append("c"); k != (api.Key{}) || why != api.ErrNil {
				t.Errorf("%s: Append = %v, %v", name, k, why)
			}
			if got := pairs(l); len(got) != 0 {
				t.Errorf("%s: All tells %v", name, got)
			}
		}
	}
	check(t, made, 1, pair{num(0), "a"}, pair{word("k"), "b"})
}

// TestExamples: those of the chapter.
func TestExamples(t *testing.T) {
	l := New[string]()
	set(t, l, word("5"), "a")
	add(t, l, "b", 6)
	set(t, l, word("05"), "c")
	check(t, l, 7, pair{num(5), "a"}, pair{num(6), "b"}, pair{word("05"), "c"})
	take(t, l, num(6), true)
	add(t, l, "d", 7)

	m := New[string]()
	set(t, m, num(-3), "a")
	add(t, m, "b", 0)
	check(t, m, 1, pair{num(-3), "a"}, pair{num(0), "b"})
}
