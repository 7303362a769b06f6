package deep

import (
	"math"
	"reflect"
	"slices"
	"testing"

	"ostler/api"
)

// TestP8_5_Count: the items of a value, and those in them, of whatever kind they are; no more than one above the most.
func TestP8_5_Count(t *testing.T) {
	pair := []api.Item{under(word("5"), null()), under(word("5"), api.Value{Kind: 9, Items: row(null()).Items})}
	twice := null()
	for range 60 {
		twice = row(twice, twice)
	}
	for _, c := range []struct {
		v    api.Value
		want int
	}{
		{null(), 0},
		{truth(1), 0},
		{number(7), 0},
		{text("abc"), 0},
		{object(7), 0},
		{row(), 0},
		{listOf(7), 0},
		{row(null()), 1},
		{row(row()), 1},
		{row(row(null(), null()), row(null())), 5},
		{nested(api.MaxDeep, null()), api.MaxDeep},
		{listOf(-9, pair...), 3},
		{api.Value{Items: pair}, 3},
		{api.Value{Kind: api.Obj, Items: pair}, 3},
		{api.Value{Kind: api.Text, Text: "a", Items: pair}, 3},
		{api.Value{Kind: -1, Items: pair}, 3},
		{nulls(api.MaxItems - 1), api.MaxItems - 1},
		{nulls(api.MaxItems), api.MaxItems},
		{nulls(api.MaxItems + 1), api.MaxItems + 1},
		{nulls(api.MaxItems + 2), api.MaxItems + 1},
		{nulls(10 * api.MaxItems), api.MaxItems + 1},
		{row(nulls(api.MaxItems - 1)), api.MaxItems},
		{row(nulls(api.MaxItems)), api.MaxItems + 1},
		{row(nulls(api.MaxItems), nulls(api.MaxItems)), api.MaxItems + 1},
		{row(nulls(api.MaxItems-2), null()), api.MaxItems},
		{row(nulls(api.MaxItems-1), null()), api.MaxItems + 1},
		{nested(api.MaxItems, null()), api.MaxItems},
		{nested(api.MaxItems+1, null()), api.MaxItems + 1},
		{nested(1<<16, null()), api.MaxItems + 1},
		{twice, api.MaxItems + 1},
	} {
		if got := Count(c.v); got != c.want {
			t.Errorf("Count(%s) = %d, not %d", brief(c.v), got, c.want)
		}
	}
}

// TestP8_5_Pick: keys lead from list to list.
func TestP8_5_Pick(t *testing.T) {
	inner := listOf(8, under(word("a"), text("x")), under(num(7), row(number(3))))
	v := listOf(6, under(num(5), inner), under(word("k"), null()), under(word("05"), truth(1)), under(word(""), object(4)), under(num(-1), number(2)))
	odd := listOf(0, under(word("5"), number(1)), under(api.Key{Int: 6, Text: "a"}, number(2)), under(api.Key{IsText: true, Int: 1, Text: "b"}, number(3)),
		under(word("c"), number(4)), under(word("c"), row(number(5))), under(word("d"), row(number(6))), under(word("d"), number(7)))
	bare := inner.Items
	for _, c := range []struct {
		v    api.Value
		path []api.Key
		want api.Value
		ok   bool
	}{
		{v, nil, v, true},
		{v, []api.Key{}, v, true},
		{number(3), nil, number(3), true},
		{null(), nil, null(), true},
		{api.Value{Kind: 77, Int: 3, Text: "a", Items: bare}, nil, api.Value{Kind: 77, Int: 3, Text: "a", Items: bare}, true},
		{v, []api.Key{num(5)}, inner, true},
		{v, []api.Key{word("5")}, inner, true},
		{v, []api.Key{{Int: 5, Text: "junk"}}, inner, true},
		{v, []api.Key{{IsText: true, Int: 9, Text: "5"}}, inner, true},
		{v, []api.Key{word("k")}, null(), true},
		{v, []api.Key{{IsText: true, Int: 3, Text: "k"}}, null(), true},
		{v, []api.Key{word("05")}, truth(1), true},
		{v, []api.Key{word("")}, object(4), true},
		{v, []api.Key{word("-1")}, number(2), true},
		{v, []api.Key{num(5), word("a")}, text("x"), true},
		{v, []api.Key{num(5), num(7)}, row(number(3)), true},
		{v, []api.Key{word("5"), word("7"), word("0")}, number(3), true},
		{v, []api.Key{num(6)}, null(), false},
		{v, []api.Key{num(0)}, null(), false},
		{v, []api.Key{word("K")}, null(), false},
		{v, []api.Key{word("a")}, null(), false},
		{v, []api.Key{word("k"), num(0)}, null(), false},
		{v, []api.Key{word("05"), num(0)}, null(), false},
		{v, []api.Key{num(5), word("a"), num(0)}, null(), false},
		{v, []api.Key{num(5), num(5)}, null(), false},
		{v, []api.Key{num(5), num(7), num(0), num(0)}, null(), false},
		{null(), []api.Key{num(0)}, null(), false},
		{text("abc"), []api.Key{num(0)}, null(), false},
		{row(), []api.Key{num(0)}, null(), false},
		{row(), []api.Key{{}}, null(), false},
		{api.Value{Kind: api.Obj, Int: 1, Items: bare}, []api.Key{word("a")}, null(), false},
		{api.Value{Items: bare}, []api.Key{word("a")}, null(), false},
		{api.Value{Kind: 6, Items: bare}, []api.Key{word("a")}, null(), false},
		{row(api.Value{Kind: api.Obj, Items: bare}), []api.Key{num(0)}, api.Value{Kind: api.Obj, Items: bare}, true},
		{row(api.Value{Kind: api.Obj, Items: bare}), []api.Key{num(0), word("a")}, null(), false},
		{odd, []api.Key{word("5")}, null(), false},
		{odd, []api.Key{num(5)}, null(), false},
		{odd, []api.Key{num(6)}, null(), false},
		{odd, []api.Key{{Int: 6, Text: "a"}}, null(), false},
		{odd, []api.Key{word("b")}, null(), false},
		{odd, []api.Key{word("c")}, number(4), true},
		{odd, []api.Key{word("c"), num(0)}, null(), false},
		{odd, []api.Key{word("d"), num(0)}, number(6), true},
		{nulls(3 * api.MaxItems), []api.Key{num(3*api.MaxItems - 1)}, null(), true},
		{nulls(3 * api.MaxItems), []api.Key{num(3 * api.MaxItems)}, null(), false},
		{nested(1<<16, text("far")), slices.Repeat([]api.Key{num(0)}, 1<<16), text("far"), true},
		{nested(1<<16, text("far")), slices.Repeat([]api.Key{num(0)}, 1<<16+1), null(), false},
	} {
		if got, ok := Pick(c.v, c.path...); !reflect.DeepEqual(got, c.want) || ok != c.ok {
			t.Errorf("Pick(%s, %.80v) = %s, %v, not %s", brief(c.v), c.path, brief(got), ok, brief(c.want))
		}
	}
	if _, ok := Pick(nested(1<<16, null())); !ok {
		t.Error("a deep value is not picked by no keys")
	}
}

func checkMade(t *testing.T, items []api.Item, want api.Value, why api.Errno) {
	t.Helper()
	got, gotWhy := Make(items...)
	if !reflect.DeepEqual(got, want) || gotWhy != why {
		t.Errorf("Make of %s = %s, %v, not %s, %v", brief(api.Value{Items: items}), brief(got), gotWhy, brief(want), why)
	}
}

// TestP8_5_Make: items are put one behind the other into an empty list.
func TestP8_5_Make(t *testing.T) {
	one, two, three := number(1), number(2), number(3)
	for _, c := range []struct {
		items []api.Item
		want  api.Value
	}{
		{nil, listOf(0)},
		{[]api.Item{}, listOf(0)},
		{[]api.Item{under(num(0), one)}, row(one)},
		{[]api.Item{under(word("5"), one), under(word("05"), two)}, listOf(6, under(num(5), one), under(word("05"), two))},
		{[]api.Item{under(num(5), one), under(word("k"), two), under(word("5"), three)}, listOf(6, under(num(5), three), under(word("k"), two))},
		{[]api.Item{under(api.Key{Int: 3, Text: "a"}, one), under(api.Key{IsText: true, Int: 4, Text: "b"}, two)}, listOf(4, under(num(3), one), under(word("b"), two))},
		{[]api.Item{under(num(-5), one), under(num(-3), two)}, listOf(0, under(num(-5), one), under(num(-3), two))},
		{[]api.Item{under(num(9), one), under(num(3), two)}, listOf(10, under(num(9), one), under(num(3), two))},
		{[]api.Item{under(num(math.MaxInt), one), under(num(3), two)}, listOf(-1, under(num(math.MaxInt), one), under(num(3), two))},
		{[]api.Item{under(num(math.MaxInt-1), one)}, listOf(math.MaxInt, under(num(math.MaxInt-1), one))},
		{[]api.Item{under(word("a"), row(row(one)))}, listOf(0, under(word("a"), row(row(one))))},
		{[]api.Item{under(word("a"), truth(7)), under(word("a"), one)}, listOf(0, under(word("a"), one))},
		{[]api.Item{under(word("a"), nulls(api.MaxItems)), under(word("a"), nulls(api.MaxItems-1))}, listOf(0, under(word("a"), nulls(api.MaxItems-1)))},
		{nulls(api.MaxItems).Items, nulls(api.MaxItems)},
		{append(nulls(api.MaxItems).Items, under(num(7), null())), nulls(api.MaxItems)},
		{[]api.Item{under(num(0), nested(api.MaxDeep-1, one))}, nested(api.MaxDeep, one)},
	} {
		checkMade(t, c.items, c.want, api.OK)
	}
}

// TestP8_5_MakeRefused: a list that may not be is not made.
func TestP8_5_MakeRefused(t *testing.T) {
	for _, items := range [][]api.Item{
		nulls(api.MaxItems + 1).Items,
		append(nulls(api.MaxItems).Items, under(word("a"), null()), under(num(0), null())),
		nulls(3 * api.MaxItems).Items,
		{under(num(0), nulls(api.MaxItems))},
		{under(num(0), nulls(api.MaxItems/2)), under(num(1), nulls(api.MaxItems/2-1))},
		{under(num(0), nested(api.MaxDeep, null()))},
		{under(num(0), nested(1<<16, null()))},
		{under(word("a"), number(1)), under(word("a"), truth(7))},
	} {
		checkMade(t, items, null(), api.ErrArg)
	}
	for _, v := range wrongValues() {
		checkMade(t, []api.Item{under(word("a"), v)}, null(), api.ErrArg)
		checkMade(t, []api.Item{under(word("a"), null()), under(word("b"), v), under(word("c"), null())}, null(), api.ErrArg)
	}
	for _, v := range rightValues() {
		if Right(row(v)) {
			checkMade(t, []api.Item{under(num(0), v)}, clone(row(bare(v))), api.OK)
		}
	}
}

// bare is a value whose lists without items have none at all, as nil and empty are the same.
func bare(v api.Value) api.Value {
	v = clone(v)
	if len(v.Items) == 0 {
		v.Items = nil
	}
	return v
}

// TestR4_Apart: two lists of one answer share nothing, also where those handed in do.
func TestR4_Apart(t *testing.T) {
	one := row(number(1))
	picked, _ := Pick(row(one, one))
	made, _ := Make(under(num(0), one), under(num(1), one))
	for _, v := range []api.Value{picked, made} {
		v.Items[0].V.Items[0].V = number(2)
		if !reflect.DeepEqual(v, row(row(number(2)), row(number(1)))) {
			t.Errorf("a list was written into by the one beside it: %s", brief(v))
		}
	}
}
