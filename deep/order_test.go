package deep

import (
	"math"
	"strings"
	"testing"

	"ostler/api"
	"ostler/conv"
)

func checkOrder(t *testing.T, a, b api.Value, want int) {
	t.Helper()
	if got, why := Order(a, b); got != want || why != api.OK {
		t.Errorf("Order(%s, %s) = %d, %v, not %d", brief(a), brief(b), got, why, want)
	}
	if got, why := Loose(a, b); got != (want == 0) || why != api.OK {
		t.Errorf("Loose(%s, %s) = %v, %v, and the order is %d", brief(a), brief(b), got, why, want)
	}
}

// checkBoth holds two orders of two values, of the one way round and of the other.
func checkBoth(t *testing.T, a, b api.Value, want, back int) {
	t.Helper()
	checkOrder(t, a, b, want)
	checkOrder(t, b, a, back)
}

// TestP8_2_Plain: two plain values stand as layer 6 says.
func TestP8_2_Plain(t *testing.T) {
	for _, c := range []struct {
		a, b api.Value
		want int
	}{
		{text("10"), text("9"), 1},
		{text("10"), text("9x"), -1},
		{null(), text(""), 0},
		{null(), text("0"), -1},
		{number(0), text("a"), -1},
		{number(5), text(" 5 "), 0},
		{truth(1), text("0"), 1},
		{truth(0), text("0"), 0},
		{truth(0), null(), 0},
		{null(), number(math.MinInt), -1},
		{number(math.MinInt), number(math.MaxInt), -1},
	} {
		checkBoth(t, c.a, c.b, c.want, -c.want)
	}
}

// TestP8_2_Truths: a null or a truth beside a list or an object.
func TestP8_2_Truths(t *testing.T) {
	for _, empty := range []api.Value{row(), listOf(7), listOf(-1)} {
		checkBoth(t, null(), empty, 0, 0)
		checkBoth(t, truth(0), empty, 0, 0)
		checkBoth(t, truth(1), empty, 1, -1)
	}
	for _, full := range []api.Value{row(null()), row(row()), object(1), object(math.MaxInt)} {
		checkBoth(t, null(), full, -1, 1)
		checkBoth(t, truth(0), full, -1, 1)
		checkBoth(t, truth(1), full, 0, 0)
	}
}

// TestP8_2_Kinds: lists are behind objects, and these behind numbers and texts, whatever they are.
func TestP8_2_Kinds(t *testing.T) {
	plain := []api.Value{number(0), number(1), number(math.MaxInt), number(math.MinInt), text(""), text("0"), text("9"), text("array"), text("\xff")}
	for _, l := range []api.Value{row(), row(null()), row(number(1), number(2))} {
		for _, v := range append(plain, object(1), object(2)) {
			checkBoth(t, l, v, 1, -1)
		}
	}
	for _, o := range []api.Value{object(1), object(math.MaxInt)} {
		for _, v := range plain {
			checkBoth(t, o, v, 1, -1)
		}
	}
	checkBoth(t, object(3), object(3), 0, 0)
	checkBoth(t, object(3), object(4), 1, 1)
	checkBoth(t, object(1), object(math.MaxInt), 1, 1)
}

// TestP8_2_Lists: by how many items there are, by the keys of the first, by the first values that stand apart.
func TestP8_2_Lists(t *testing.T) {
	a, b, c := word("a"), word("b"), word("c")
	one, two, nine := number(1), number(2), number(9)
	for _, x := range []struct {
		a, b       api.Value
		want, back int
	}{
		{row(), row(), 0, 0},
		{row(), listOf(7), 0, 0},
		{row(nine), row(one, one), -1, 1},
		{row(row(one, one, one)), row(null(), null()), -1, 1},
		{row(), row(null()), -1, 1},
		{row(one, two), row(one, two), 0, 0},
		{row(one, two), listOf(-1, under(num(0), one), under(num(1), two)), 0, 0},
		{row(one, two), row(one, nine), -1, 1},
		{row(text("1"), truth(1)), row(one, two), 0, 0},
		{listOf(0, under(a, one), under(b, two)), listOf(0, under(b, two), under(a, one)), 0, 0},
		{listOf(0, under(a, one), under(b, two)), listOf(0, under(b, one), under(a, two)), -1, -1},
		{listOf(0, under(a, two), under(b, one)), listOf(0, under(b, two), under(a, one)), 1, 1},
		{listOf(0, under(a, one), under(b, two)), listOf(0, under(a, one), under(c, two)), 1, 1},
		{listOf(0, under(a, one), under(b, two)), listOf(0, under(a, nine), under(c, two)), 1, 1},
		{listOf(0, under(a, nine), under(b, two)), listOf(0, under(a, one), under(c, two)), 1, 1},
		{listOf(1, under(num(0), one)), listOf(2, under(num(1), one)), 1, 1},
		{listOf(1, under(num(0), one)), listOf(0, under(a, one)), 1, 1},
		{listOf(0, under(word("05"), one)), listOf(6, under(num(5), one)), 1, 1},
		{row(row(one), two), row(row(nine), one), -1, 1},
		{row(row(one), two), row(row(one), nine), -1, 1},
		{row(row(one, one), one), row(row(nine), two), 1, -1},
		{row(object(1)), row(object(2)), 1, 1},
		{row(object(1), one), row(object(1), two), -1, 1},
		{row(null(), one), row(row(), two), -1, 1},
		{row(listOf(0, under(a, one))), row(listOf(0, under(b, one))), 1, 1},
	} {
		checkBoth(t, x.a, x.b, x.want, x.back)
	}
	checkBoth(t, nested(api.MaxDeep, one), nested(api.MaxDeep, text(" 1")), 0, 0)
	checkBoth(t, nested(api.MaxDeep, one), nested(api.MaxDeep, two), -1, 1)
	checkBoth(t, nulls(api.MaxItems), nulls(api.MaxItems), 0, 0)
	checkBoth(t, nulls(api.MaxItems), nulls(api.MaxItems-1), 1, -1)
}

func checkSame(t *testing.T, a, b api.Value, want bool) {
	t.Helper()
	if Same(a, b) != want || Same(b, a) != want {
		t.Errorf("Same(%s, %s) = %v, %v the other way round, not %v", brief(a), brief(b), Same(a, b), Same(b, a), want)
	}
}

// TestP8_3_Same: of one kind, and the same within.
func TestP8_3_Same(t *testing.T) {
	a, b := word("a"), word("b")
	one, two := number(1), number(2)
	for _, c := range []struct {
		a, b api.Value
		want bool
	}{
		{null(), null(), true},
		{null(), truth(0), false},
		{truth(1), truth(1), true},
		{truth(1), truth(0), false},
		{one, one, true},
		{one, two, false},
		{one, text("1"), false},
		{one, truth(1), false},
		{one, object(1), false},
		{text("a"), text("a"), true},
		{text("1"), text("01"), false},
		{object(1), object(1), true},
		{object(1), object(2), false},
		{row(), row(), true},
		{row(), null(), false},
		{row(), listOf(7), true},
		{row(one), listOf(-1, under(num(0), one)), true},
		{row(one), listOf(50, under(num(0), one)), true},
		{row(one), row(two), false},
		{row(one), row(one, two), false},
		{row(one), row(text("1")), false},
		{row(one, two), listOf(2, under(num(1), two), under(num(0), one)), false},
		{listOf(0, under(a, one), under(b, two)), listOf(0, under(a, one), under(b, two)), true},
		{listOf(0, under(a, one), under(b, two)), listOf(0, under(b, two), under(a, one)), false},
		{listOf(0, under(a, one)), listOf(0, under(b, one)), false},
		{row(row(one), row()), row(row(one), listOf(9)), true},
		{row(row(one), row()), row(row(one), row(null())), false},
		{row(row(object(1))), row(row(object(2))), false},
		{nested(api.MaxDeep, one), nested(api.MaxDeep, one), true},
		{nested(api.MaxDeep, one), nested(api.MaxDeep, two), false},
		{nulls(api.MaxItems), nulls(api.MaxItems), true},
	} {
		checkSame(t, c.a, c.b, c.want)
	}
}

// TestP8_3_MayNotBe: values that may not be are held against each other as well, but not such as have too many items.
func TestP8_3_MayNotBe(t *testing.T) {
	five, fiveToo := under(word("5"), null()), under(num(5), null())
	for _, c := range []struct {
		a, b api.Value
		want bool
	}{
		{truth(1), truth(2), true},
		{truth(-1), truth(2), true},
		{truth(-1), truth(0), false},
		{object(0), object(0), true},
		{object(-1), object(-1), true},
		{object(-1), object(0), false},
		{text(strings.Repeat("x", api.MaxText+1)), text(strings.Repeat("x", api.MaxText+1)), true},
		{text(strings.Repeat("x", api.MaxText+1)), text(strings.Repeat("x", api.MaxText) + "y"), false},
		{api.Value{Kind: 6}, api.Value{Kind: 6}, false},
		{api.Value{Kind: -1}, api.Value{Kind: -1}, false},
		{row(api.Value{Kind: 6}), row(api.Value{Kind: 6}), false},
		{listOf(-2), listOf(-3), true},
		{listOf(0, five), listOf(0, five), true},
		{listOf(0, five), listOf(0, fiveToo), false},
		{listOf(0, five, five), listOf(0, five, five), true},
		{listOf(0, under(api.Key{Int: 5, Text: "a"}, null())), listOf(0, fiveToo), false},
		{listOf(0, under(api.Key{IsText: true, Int: 1, Text: "a"}, null())), listOf(0, under(word("a"), null())), false},
		{nested(api.MaxDeep+1, null()), nested(api.MaxDeep+1, null()), true},
		{nested(api.MaxItems, null()), nested(api.MaxItems, null()), true},
		{nested(api.MaxItems, null()), nested(api.MaxItems, truth(0)), false},
		{nested(api.MaxItems+1, null()), nested(api.MaxItems+1, null()), false},
		{nested(1<<16, null()), nested(1<<16, null()), false},
		{nulls(api.MaxItems + 1), nulls(api.MaxItems + 1), false},
		{nulls(api.MaxItems), nulls(api.MaxItems + 1), false},
		{row(nulls(api.MaxItems)), row(nulls(api.MaxItems)), false},
		{api.Value{Items: nulls(api.MaxItems + 1).Items}, null(), false},
		{api.Value{Kind: api.Obj, Int: 1, Items: nulls(api.MaxItems + 1).Items}, object(1), false},
	} {
		checkSame(t, c.a, c.b, c.want)
	}
}

// orderAgain is the order of two values told once more: by a case for each pair of kinds, without maps.
func orderAgain(a, b api.Value) int {
	truths := func() int {
		n, _ := conv.Order(truth(conv.Number(truthOf(a))), truth(conv.Number(truthOf(b))))
		return n
	}
	switch [2]bool{a.Kind < api.List, b.Kind < api.List} {
	case [2]bool{true, true}:
		n, _ := conv.Order(a, b)
		return n
	case [2]bool{true, false}:
		if a.Kind <= api.Bool {
			return truths()
		}
		return -1
	case [2]bool{false, true}:
		if b.Kind <= api.Bool {
			return truths()
		}
		return 1
	}
	if a.Kind != b.Kind {
		return b.Kind - a.Kind
	}
	if a.Kind == api.Obj {
		return min(1, max(a.Int, b.Int)-min(a.Int, b.Int))
	}
	return orderItemsAgain(a.Items, b.Items)
}

func truthOf(v api.Value) api.Value {
	if v.Kind == api.Obj || len(v.Items) > 0 || v.Kind == api.Bool && v.Int == 1 {
		return truth(1)
	}
	return truth(0)
}

func orderItemsAgain(a, b []api.Item) int {
	if len(a) != len(b) {
		return max(-1, min(1, len(a)-len(b)))
	}
	verdict := 0
	for _, one := range a {
		found := false
		for _, other := range b {
			if one.Key.IsText == other.Key.IsText && one.Key.Int == other.Key.Int && one.Key.Text == other.Key.Text {
				found = true
				if verdict == 0 {
					verdict = orderAgain(one.V, other.V)
				}
			}
		}
		if !found {
			return 1
		}
	}
	return verdict
}

// checkPair holds all that is promised of two values that may be.
func checkPair(t *testing.T, a, b api.Value) {
	t.Helper()
	checkOrder(t, a, b, orderAgain(a, b))
	shown, _ := Show(a)
	other, _ := Show(b)
	same := Same(a, b)
	if same != (shown == other) {
		t.Errorf("Same(%s, %s) = %v, and they show as %.80q and %.80q", brief(a), brief(b), same, shown, other)
	}
	if loose, _ := Loose(a, b); same && !loose {
		t.Errorf("%s and %s are the same and not loose", brief(a), brief(b))
	}
}

// TestP8_6_P8_7_EveryPair: every pair of the values that may be.
func TestP8_6_P8_7_EveryPair(t *testing.T) {
	values := rightValues()
	for _, a := range values {
		for _, b := range values {
			checkPair(t, a, b)
			checkPair(t, a, clone(b))
			if Count(a)+Count(b)+2 <= api.MaxItems && Right(row(a)) && Right(row(b)) {
				checkPair(t, row(a, b), row(b, a))
				checkPair(t, row(a), row(b))
			}
		}
	}
}
