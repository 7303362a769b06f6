package url

import (
	"math"
	"reflect"
	"strings"
	"testing"

	"ostler/api"
)

// TestP9_2_Kind: texts are put into lists alone.
func TestP9_2_Kind(t *testing.T) {
	items := row(text("a")).Items
	for _, v := range []api.Value{null(), truth(0), truth(1), number(0), number(4), text(""), text("a"), object(1), {Kind: -1}, {Kind: 6}, {Kind: 3, Items: items}, {Items: items}} {
		for _, name := range []string{"", "a", "a[b]", "[a]"} {
			if got, why := Put(v, name, "x"); why != api.ErrArg || !reflect.DeepEqual(got, null()) {
				t.Errorf("Put(%+v, %q) = %+v, %v", v, name, got, why)
			}
		}
	}
}

// TestP9_2_Path: what of a name is its head, and what its steps.
func TestP9_2_Path(t *testing.T) {
	in := func(head string, v api.Value) api.Value { return listOf(0, under(word(head), v)) }
	x := text("x")
	for _, c := range []struct {
		name string
		want api.Value
	}{
		{"", row()},
		{"[", row()},
		{"]", in("]", x)},
		{"[]", row()},
		{"[a]", row()},
		{"[a][b]", row()},
		{"a", in("a", x)},
		{"a]", in("a]", x)},
		{"a]b", in("a]b", x)},
		{"a][b]", in("a]", in("b", x))},
		{"a[", in("a", x)},
		{"a[b", in("a", x)},
		{"a[[b", in("a", x)},
		{"a[b[", in("a", x)},
		{"a[]", in("a", row(x))},
		{"a[][]", in("a", row(row(x)))},
		{"a[b]", in("a", in("b", x))},
		{"a[b][c]", in("a", in("b", in("c", x)))},
		{"a[b][]", in("a", in("b", row(x)))},
		{"a[][b]", in("a", row(in("b", x)))},
		{"a[b]c", in("a", in("b", x))},
		{"a[b]c[d]", in("a", in("b", x))},
		{"a[b] [d]", in("a", in("b", x))},
		{"a[b]]", in("a", in("b", x))},
		{"a[b]][c]", in("a", in("b", x))},
		{"a[b][", in("a", in("b", x))},
		{"a[b][c", in("a", in("b", x))},
		{"a[b][c[d", in("a", in("b", x))},
		{"a[[]", in("a", in("[", x))},
		{"a[[b]", in("a", in("[b", x))},
		{"a[b[c]", in("a", in("b[c", x))},
		{"a[b[c]]", in("a", in("b[c", x))},
		{"a[b[c][d]", in("a", in("b[c", in("d", x)))},
		{"a[ ]", in("a", in(" ", x))},
		{"a[b c.d]", in("a", in("b c.d", x))},
		{"a b.c", in("a_b_c", x)},
		{" .", in("__", x)},
		{" . [ .]", in("___", in(" .", x))},
		{".", in("_", x)},
		{"a\tb\n", in("a\tb\n", x)},
		{"a+b%20", in("a+b%20", x)},
		{"a%5Bb%5D", in("a%5Bb%5D", x)},
		{"a[%5D]", in("a", in("%5D", x))},
		{"a=b", in("a=b", x)},
		{"\x00\xff", in("\x00\xff", x)},
		{"\xff .\xc3[\xff]", in("\xff__\xc3", in("\xff", x))},
		{"a[\x00]", in("a", in("\x00", x))},
		{"5", listOf(6, under(num(5), x))},
		{"a[5]", in("a", listOf(6, under(num(5), x)))},
		{"a[-5]", in("a", listOf(0, under(num(-5), x)))},
		{"a[05]", in("a", in("05", x))},
		{"a[5 ]", in("a", in("5 ", x))},
		{" 5", in("_5", x)},
		{"5.0", in("5_0", x)},
		{"a[5.0]", in("a", in("5.0", x))},
		{"a[9223372036854775807]", in("a", listOf(-1, under(num(math.MaxInt), x)))},
		{"a[9223372036854775808]", in("a", in("9223372036854775808", x))},
		{"a[-9223372036854775808]", in("a", listOf(0, under(num(math.MinInt), x)))},
		{strings.Repeat(".", 1<<17), in(strings.Repeat("_", 1<<17), x)},
		{"a[" + strings.Repeat("[", 1<<17) + "]", in("a", in(strings.Repeat("[", 1<<17), x))},
	} {
		checkPut(t, row(), c.name, "x", c.want)
	}
}

// TestP9_2_Into: what stands there already is gone to, replaced in its place, or made a list.
func TestP9_2_Into(t *testing.T) {
	x := text("x")
	into := listOf(8,
		under(word("n"), null()),
		under(num(7), listOf(3, under(num(2), text("two")), under(word("k"), row(text("in"))))),
		under(word("t"), text("old")),
		under(word("o"), object(3)),
		under(word("e"), listOf(9)),
		under(word("d"), listOf(-1, under(num(1), truth(1)))))
	with := func(at int, v api.Value) api.Value {
		w := clone(into)
		w.Items[at].V = v
		return w
	}
	more := func(next int, item api.Item) api.Value {
		w := clone(into)
		w.Items, w.Int = append(w.Items, item), next
		return w
	}
	for _, c := range []struct {
		name string
		want api.Value
	}{
		{"", into},
		{"[k]", into},
		{"n", with(0, x)},
		{"n[]", with(0, row(x))},
		{"n[a][b]", with(0, listOf(0, under(word("a"), listOf(0, under(word("b"), x)))))},
		{"t", with(2, x)},
		{"t[a]", with(2, listOf(0, under(word("a"), x)))},
		{"o", with(3, x)},
		{"o[]", with(3, row(x))},
		{"7", with(1, x)},
		{"7[]", with(1, listOf(4, under(num(2), text("two")), under(word("k"), row(text("in"))), under(num(3), x)))},
		{"7[2]", with(1, listOf(3, under(num(2), x), under(word("k"), row(text("in")))))},
		{"7[k]", with(1, listOf(3, under(num(2), text("two")), under(word("k"), x)))},
		{"7[k][]", with(1, listOf(3, under(num(2), text("two")), under(word("k"), row(text("in"), x))))},
		{"7[k][0]", with(1, listOf(3, under(num(2), text("two")), under(word("k"), row(x))))},
		{"7[k][0][]", with(1, listOf(3, under(num(2), text("two")), under(word("k"), row(row(x)))))},
		{"7[2][a]", with(1, listOf(3, under(num(2), listOf(0, under(word("a"), x))), under(word("k"), row(text("in")))))},
		{"7[][]", with(1, listOf(4, under(num(2), text("two")), under(word("k"), row(text("in"))), under(num(3), row(x))))},
		{"7[0]", with(1, listOf(3, under(num(2), text("two")), under(word("k"), row(text("in"))), under(num(0), x)))},
		{"7[20]", with(1, listOf(21, under(num(2), text("two")), under(word("k"), row(text("in"))), under(num(20), x)))},
		{"e", with(4, x)},
		{"e[]", with(4, listOf(10, under(num(9), x)))},
		{"e[4]", with(4, listOf(9, under(num(4), x)))},
		{"e[a][]", with(4, listOf(9, under(word("a"), row(x))))},
		{"d", with(5, x)},
		{"d[]", into},
		{"d[][a]", into},
		{"d[2]", with(5, listOf(-1, under(num(1), truth(1)), under(num(2), x)))},
		{"d[1]", with(5, listOf(-1, under(num(1), x)))},
		{"d[1][]", with(5, listOf(-1, under(num(1), row(x))))},
		{"d[9223372036854775807]", with(5, listOf(-1, under(num(1), truth(1)), under(num(math.MaxInt), x)))},
		{"new", more(8, under(word("new"), x))},
		{"new[5][]", more(8, under(word("new"), listOf(6, under(num(5), row(x)))))},
		{"8", more(9, under(num(8), x))},
		{"3", more(8, under(num(3), x))},
		{"N", more(8, under(word("N"), x))},
		{"07", more(8, under(word("07"), x))},
	} {
		checkPut(t, into, c.name, "x", c.want)
	}
	for _, next := range []int{0, 1, 2, 1 << 40, math.MaxInt, -1} {
		checkPut(t, listOf(next), "a", "x", listOf(next, under(word("a"), x)))
		checkPut(t, listOf(next), "", "x", listOf(next))
	}
	checkPut(t, listOf(math.MaxInt, under(word("a"), listOf(math.MaxInt))), "a[]", "x", listOf(math.MaxInt, under(word("a"), listOf(-1, under(num(math.MaxInt), x)))))
	checkPut(t, listOf(-1, under(num(math.MaxInt), null())), "a", "", listOf(-1, under(num(math.MaxInt), null()), under(word("a"), text(""))))
}

// TestP9_2_Full: nothing is put if there would be more items in all than there may be; what is replaced makes room.
func TestP9_2_Full(t *testing.T) {
	most := api.MaxItems
	full := nulls(most)
	with := func(v api.Value, at int, one api.Value) api.Value {
		w := clone(v)
		w.Items[at].V = one
		return w
	}
	and := func(v api.Value, next int, k api.Key, one api.Value) api.Value {
		w := clone(v)
		w.Items, w.Int = append(w.Items, under(k, one)), next
		return w
	}
	x := text("x")
	checkPut(t, full, "a", "x", full)
	checkPut(t, full, "2048", "x", full)
	checkPut(t, full, "a[b]", "x", full)
	checkPut(t, full, "7", "x", with(full, 7, x))
	checkPut(t, full, "7[]", "x", full)
	checkPut(t, full, "7[k]", "x", full)
	near := nulls(most - 1)
	checkPut(t, near, "a", "x", and(near, most-1, word("a"), x))
	checkPut(t, near, "2047", "x", and(near, most, num(most-1), x))
	checkPut(t, near, "a[b]", "x", near)
	checkPut(t, near, "7[]", "x", with(near, 7, row(x)))
	checkPut(t, near, "7[][]", "x", near)
	less := nulls(most - 3)
	checkPut(t, less, "a[b][c]", "x", and(less, most-3, word("a"), listOf(0, under(word("b"), listOf(0, under(word("c"), x))))))
	checkPut(t, less, "a[b][c][d]", "x", less)
	inner := row(nulls(most-2), null())
	checkPut(t, inner, "0[]", "x", inner)
	checkPut(t, inner, "0[k]", "x", inner)
	checkPut(t, inner, "a", "x", inner)
	checkPut(t, inner, "1[a]", "x", inner)
	checkPut(t, inner, "1", "x", with(inner, 1, x))
	checkPut(t, inner, "0[5]", "x", row(with(nulls(most-2), 5, x), null()))
	checkPut(t, inner, "0", "x", row(x, null()))
	halves := row(nulls(most/2), nulls(most/2-2))
	checkPut(t, halves, "1[]", "x", halves)
	checkPut(t, row(nulls(most/2), nulls(most/2-3)), "1[]", "x", row(nulls(most/2), and(nulls(most/2-3), most/2-2, num(most/2-3), x)))
	checkPut(t, row(row(nulls(most-3)), null()), "0[0][]", "x", row(row(nulls(most-3)), null()))
	checkPut(t, row(row(nulls(most-3)), null()), "0[0]", "x", row(row(x), null()))
	checkPut(t, row(row(nulls(most-3)), null()), "0", "x", row(x, null()))
}

// TestP9_2_TooFull: a list that has too many items already takes a text just where that makes it small enough.
func TestP9_2_TooFull(t *testing.T) {
	most := api.MaxItems
	x := text("x")
	for _, n := range []int{most + 1, 3 * most} {
		checkPut(t, nulls(n), "a", "x", nulls(n))
		checkPut(t, nulls(n), "7", "x", nulls(n))
		checkPut(t, nulls(n), "7[a]", "x", nulls(n))
		checkPut(t, row(nulls(n)), "0[7]", "x", row(nulls(n)))
		checkPut(t, row(nulls(n)), "0[]", "x", row(nulls(n)))
		checkPut(t, row(nulls(n)), "a", "x", row(nulls(n)))
		checkPut(t, row(nulls(n)), "0", "x", row(x))
		checkPut(t, row(nulls(n), nulls(n)), "0", "x", row(nulls(n), nulls(n)))
		checkPut(t, row(null(), row(nulls(n))), "1[0]", "x", row(null(), row(x)))
	}
	// Lists that are shared may have far more items in all than lie in memory: what is replaced is not gone over.
	twice := row()
	for range 60 {
		twice = row(twice, twice)
	}
	if got, why := Put(row(twice), "0", "x"); why != api.OK || !reflect.DeepEqual(got, row(x)) {
		t.Errorf("Put = %s, %v", brief(got), why)
	}
	// What has items without being a list counts them, and is replaced.
	odd := api.Value{Kind: api.Obj, Int: 1, Items: nulls(most).Items}
	checkPut(t, row(odd), "a", "x", row(odd))
	checkPut(t, row(odd), "0", "x", row(x))
	checkPut(t, row(odd), "0[]", "x", row(row(x)))
}

// TestP9_2_Deep: of a path the parts are counted, not the lists that are there.
func TestP9_2_Deep(t *testing.T) {
	x := text("x")
	steps := func(n int) string { return "k" + strings.Repeat("[k]", n-1) }
	checkPut(t, row(), steps(api.MaxDeep), "x", within(api.MaxDeep, "k", x))
	checkPut(t, row(), steps(api.MaxDeep+1), "x", row())
	checkPut(t, within(api.MaxDeep, "k", null()), steps(api.MaxDeep), "x", within(api.MaxDeep, "k", x))
	checkPut(t, within(api.MaxDeep+8, "k", null()), steps(api.MaxDeep), "x", within(api.MaxDeep, "k", x))
	checkPut(t, within(api.MaxDeep+8, "k", null()), steps(api.MaxDeep+1), "x", within(api.MaxDeep+8, "k", null()))
	far := within(1<<16, "k", null())
	checkPut(t, far, "k[k]", "x", within(2, "k", x))
	checkPut(t, far, "k", "x", within(1, "k", x))
	if got, why := Put(far, "a", "x"); why != api.OK || len(got.Items) != 1 || got.Items[0].Key != word("k") {
		t.Errorf("Put into what is far too deep: %v", why)
	}
}

// TestP9_2_Odd: lists that may not be are taken, too; nobody panics.
func TestP9_2_Odd(t *testing.T) {
	for _, into := range []api.Value{
		listOf(-2), listOf(math.MinInt), listOf(-7, under(num(5), null())), listOf(0, under(num(math.MaxInt), null())),
		listOf(3, under(num(5), null()), under(num(5), row())), listOf(0, under(word("5"), null()), under(api.Key{Int: 3, Text: "a"}, null())),
		{Kind: api.List, Text: "a"}, listOf(0, under(word("a"), api.Value{Kind: 9, Items: row(null()).Items})), listOf(0, under(word("a"), listOf(-9))),
	} {
		for _, name := range []string{"", "a", "a[]", "a[a][]", "5", "5[]", "5[][]", "[5]", "0", "-1"} {
			was := clone(into)
			got, why := Put(into, name, "x")
			if got.Kind != api.List || why != api.OK || !reflect.DeepEqual(clone(into), was) {
				t.Errorf("Put(%+v, %q) = %+v, %v", into, name, got, why)
			}
		}
	}
}

// TestR4_Apart: two lists of one answer share nothing, also where those handed in do.
func TestR4_Apart(t *testing.T) {
	one := texts("a")
	for _, name := range []string{"", "k", "0[]", "9[]"} {
		got, _ := Put(row(one, one, row(one)), name, "x")
		got.Items[1].V.Items[0].V = text("b")
		if got.Items[0].V.Items[0].V.Text != "a" || got.Items[2].V.Items[0].V.Items[0].V.Text != "a" || one.Items[0].V.Text != "a" {
			t.Errorf("Put under %q: a list was written into by the one beside it: %s", name, brief(got))
		}
	}
}
