package deep

import (
	"math"
	"reflect"
	"strconv"
	"strings"
	"testing"

	"ostler/api"
)

func null() api.Value         { return api.Value{} }
func truth(n int) api.Value   { return api.Value{Kind: api.Bool, Int: n} }
func number(n int) api.Value  { return api.Value{Kind: api.Int, Int: n} }
func text(s string) api.Value { return api.Value{Kind: api.Text, Text: s} }
func object(n int) api.Value  { return api.Value{Kind: api.Obj, Int: n} }
func num(n int) api.Key       { return api.Key{Int: n} }
func word(s string) api.Key   { return api.Key{IsText: true, Text: s} }

func under(k api.Key, v api.Value) api.Item { return api.Item{Key: k, V: v} }

// listOf is the list of some items, with a next number, right or wrong.
func listOf(next int, items ...api.Item) api.Value {
	return api.Value{Kind: api.List, Int: next, Items: items}
}

// row is the list of some values under the numbers from 0 on.
func row(values ...api.Value) api.Value {
	v := listOf(len(values))
	for i, one := range values {
		v.Items = append(v.Items, under(num(i), one))
	}
	return v
}

// nested is a value within so many lists.
func nested(lists int, v api.Value) api.Value {
	for range lists {
		v = row(v)
	}
	return v
}

// nulls is a list of so many nulls.
func nulls(n int) api.Value {
	return row(make([]api.Value, n)...)
}

// clone is a value made anew, by other means than those that are tested.
func clone(v api.Value) api.Value {
	if v.Items == nil {
		return v
	}
	items := make([]api.Item, len(v.Items))
	for i := range v.Items {
		items[i].Key = v.Items[i].Key
		items[i].V = clone(v.Items[i].V)
	}
	v.Items = items
	return v
}

// blot writes into all of a value that can be written into.
func blot(v api.Value) {
	for i := range v.Items {
		blot(v.Items[i].V)
		v.Items[i] = under(word("blot"), text("blot"))
	}
	if cap(v.Items) > len(v.Items) {
		v.Items = append(v.Items, under(word("more"), null()))
	}
}

// rightValues are values of all kinds, with the edges of what may be.
func rightValues() []api.Value {
	return []api.Value{
		null(), {Items: []api.Item{}}, truth(0), truth(1),
		number(0), number(1), number(-1), number(5), number(math.MaxInt), number(math.MinInt),
		text(""), text("0"), text("5"), text(" 5"), text("a"), text("'\\\n"), text("\x00\xff"), text(strings.Repeat("x", api.MaxText)),
		object(1), object(2), object(math.MaxInt),
		row(), listOf(7), listOf(-1), listOf(math.MaxInt), {Kind: api.List, Items: []api.Item{}},
		row(null()), row(truth(0)), row(number(0)), row(number(1)), row(text("1")), row(object(1)), row(object(2)), row(row()), row(row(null())), row(row(row(text("a")))),
		row(number(1), number(2)), row(number(2), number(1)), listOf(9, under(num(0), number(1)), under(num(1), number(2))),
		listOf(2, under(num(1), number(2)), under(num(0), number(1))),
		listOf(0, under(word("a"), number(1)), under(word("b"), number(2))), listOf(0, under(word("b"), number(2)), under(word("a"), number(1))),
		listOf(0, under(word("a"), number(1)), under(word("c"), number(2))), listOf(0, under(word("a"), number(7)), under(word("c"), number(2))),
		listOf(-1, under(num(5), null())), listOf(6, under(num(5), null())), listOf(100, under(num(5), null())),
		listOf(0, under(num(-5), null())), listOf(0, under(num(math.MinInt), null())),
		listOf(-1, under(num(math.MaxInt), null())), listOf(math.MaxInt, under(num(math.MaxInt-1), null())),
		listOf(0, under(word(""), null()), under(word("05"), null()), under(word("-0"), null()), under(word("+1"), null()), under(word("9223372036854775808"), null())),
		listOf(1, under(num(0), row(text("a"))), under(word("k"), listOf(0, under(word("k"), object(3))))),
		listOf(0, under(word(strings.Repeat("k", api.MaxText+1)), null())),
		nested(api.MaxDeep, null()), nested(api.MaxDeep-1, row()), nested(api.MaxDeep, text("deep")),
		row(nested(api.MaxDeep-1, null()), nested(api.MaxDeep-1, null())),
		nulls(api.MaxItems), row(nulls(api.MaxItems/2-1), nulls(api.MaxItems/2-1)),
	}
}

// wrongValues are values that may not be, each by one thing alone.
func wrongValues() []api.Value {
	items := row(null()).Items
	wrong := []api.Value{
		{Kind: -1}, {Kind: 6}, {Kind: math.MinInt}, {Kind: math.MaxInt},
		{Int: 1}, {Int: -1}, {Text: "a"}, {Items: items},
		truth(2), truth(-1), truth(math.MinInt), {Kind: api.Bool, Text: "a"}, {Kind: api.Bool, Int: 1, Text: "1"}, {Kind: api.Bool, Items: items},
		{Kind: api.Int, Text: "0"}, {Kind: api.Int, Items: items},
		{Kind: api.Text, Int: 1}, {Kind: api.Text, Text: "a", Int: -1}, {Kind: api.Text, Items: items}, text(strings.Repeat("x", api.MaxText+1)),
		object(0), object(-1), object(math.MinInt), {Kind: api.Obj, Int: 1, Text: "a"}, {Kind: api.Obj, Int: 1, Items: items},
		{Kind: api.List, Text: "a"}, listOf(-2), listOf(math.MinInt),
		listOf(0, under(num(0), null())), listOf(5, under(num(5), null())), listOf(4, under(num(5), null())), listOf(5, under(num(5), null()), under(num(1), null())),
		listOf(math.MaxInt, under(num(math.MaxInt), null())), listOf(math.MinInt, under(num(math.MaxInt), null())), listOf(-2, under(num(-5), null())), listOf(-4, under(num(-5), null())),
		listOf(-1, under(num(3), null()), under(num(3), null())), listOf(0, under(word("a"), null()), under(word("b"), null()), under(word("a"), number(1))),
		listOf(9, under(word("5"), null())), listOf(9, under(word("-5"), null())), listOf(9, under(word("0"), null())), listOf(-1, under(word("9223372036854775807"), null())),
		listOf(9, under(api.Key{Int: 1, Text: "a"}, null())), listOf(9, under(api.Key{Text: "a"}, null())), listOf(9, under(api.Key{IsText: true, Int: 1, Text: "a"}, null())), listOf(9, under(api.Key{IsText: true, Int: 1}, null())),
		nested(api.MaxDeep+1, null()), nested(api.MaxDeep, row()), row(null(), nested(api.MaxDeep, null())),
		nulls(api.MaxItems + 1), row(nulls(api.MaxItems/2), nulls(api.MaxItems/2-1)), row(nulls(api.MaxItems)), nested(1<<16, null()),
	}
	for _, one := range wrong[:len(wrong)-1] {
		wrong = append(wrong, row(one), listOf(0, under(word("a"), null()), under(word("b"), row(number(1), one)), under(word("c"), null())))
	}
	return wrong
}

// brief is a value as a message tells it.
func brief(v api.Value) string {
	kept := "kind " + strconv.Itoa(v.Kind) + " int " + strconv.Itoa(v.Int) + " text " + strconv.Quote(v.Text[:min(len(v.Text), 20)])
	if len(v.Items) == 0 || len(v.Items) > 8 {
		return "{" + kept + " " + strconv.Itoa(len(v.Items)) + " items}"
	}
	for _, item := range v.Items {
		kept += " " + strconv.FormatBool(item.Key.IsText) + ":" + strconv.Itoa(item.Key.Int) + ":" + strconv.Quote(item.Key.Text[:min(len(item.Key.Text), 20)])
		if len(item.V.Items) < 2 && len(kept) < 400 {
			kept += brief(item.V)
		}
	}
	return "{" + kept + "}"
}

// TestP8_1_Right: what may be, and what may not, by each rule, alone and within lists.
func TestP8_1_Right(t *testing.T) {
	for _, v := range rightValues() {
		if !Right(v) {
			t.Errorf("Right(%s) is false", brief(v))
		}
	}
	for _, v := range wrongValues() {
		if Right(v) {
			t.Errorf("Right(%s) is true", brief(v))
		}
	}
}

// TestP8_1_ErrArg: a value that may not be is refused on both sides, and beside another such one.
func TestP8_1_ErrArg(t *testing.T) {
	refused := func(a, b api.Value) {
		t.Helper()
		if n, why := Order(a, b); n != 0 || why != api.ErrArg {
			t.Errorf("Order(%s, %s) = %d, %v", brief(a), brief(b), n, why)
		}
		if ok, why := Loose(a, b); ok || why != api.ErrArg {
			t.Errorf("Loose(%s, %s) = %v, %v", brief(a), brief(b), ok, why)
		}
	}
	for _, wrong := range wrongValues() {
		for _, right := range []api.Value{null(), truth(0), truth(1), number(1), text("a"), object(1), row(), row(null())} {
			refused(wrong, right)
			refused(right, wrong)
		}
		refused(wrong, wrong)
		if s, why := Show(wrong); s != "" || why != api.ErrArg {
			t.Errorf("Show(%s) = %.20q, %v", brief(wrong), s, why)
		}
	}
	for _, right := range rightValues() {
		if _, why := Show(right); why != api.OK {
			t.Errorf("Show(%s): %v", brief(right), why)
		}
		if n, why := Order(right, right); n != 0 || why != api.OK {
			t.Errorf("Order of %s and itself = %d, %v", brief(right), n, why)
		}
	}
}

// TestR4_Kept: what is handed in is as it was behind all calls, and nothing of it is shared by what is answered.
func TestR4_Kept(t *testing.T) {
	for _, v := range append(rightValues(), wrongValues()...) {
		if Count(v) > api.MaxItems {
			continue
		}
		was, items := clone(v), []api.Item{under(word("5"), v), under(word("k"), v), under(num(5), v)}
		wasItems := clone(listOf(0, items...)).Items
		Right(v)
		Order(v, v)
		Same(v, v)
		Show(v)
		picked, _ := Pick(v)
		blot(picked)
		if len(v.Items) > 0 {
			picked, _ = Pick(v, v.Items[0].Key)
			blot(picked)
		}
		made, _ := Make(items...)
		blot(made)
		if !reflect.DeepEqual(v, was) || !reflect.DeepEqual(items, wasItems) {
			t.Errorf("%s was written into", brief(was))
		}
	}
}
