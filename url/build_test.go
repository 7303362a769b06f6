package url

import (
	"math"
	"reflect"
	"strings"
	"testing"

	"ostler/api"
)

func checkBuild(t *testing.T, v api.Value, want string) {
	t.Helper()
	was := clone(v)
	if got, why := Build(v); got != want || why != api.OK {
		t.Fatalf("Build(%s) = %.200q, %v, not %.200q", brief(v), got, why, want)
	}
	if !reflect.DeepEqual(clone(v), was) {
		t.Fatalf("Build writes into %s", brief(was))
	}
}

// TestP9_4_Kind: lists alone are written.
func TestP9_4_Kind(t *testing.T) {
	items := texts("a").Items
	for _, v := range []api.Value{null(), truth(0), truth(1), number(0), number(4), text(""), text("a=b"), object(1), {Kind: -1}, {Kind: 6}, {Kind: 3, Items: items}, {Items: items}} {
		if got, why := Build(v); got != "" || why != api.ErrArg {
			t.Errorf("Build(%+v) = %q, %v", v, got, why)
		}
	}
}

// TestP9_4_Build: lists of all kinds of values under all kinds of keys.
func TestP9_4_Build(t *testing.T) {
	a := func(v api.Value) api.Value { return listOf(0, under(word("a"), v)) }
	for _, c := range []struct {
		v    api.Value
		want string
	}{
		{row(), ""},
		{listOf(7), ""},
		{a(null()), ""},
		{a(truth(0)), "a=0"},
		{a(truth(1)), "a=1"},
		{a(truth(-3)), "a=1"},
		{a(number(0)), "a=0"},
		{a(number(-12)), "a=-12"},
		{a(number(math.MaxInt)), "a=9223372036854775807"},
		{a(number(math.MinInt)), "a=-9223372036854775808"},
		{a(text("")), "a="},
		{a(text("x")), "a=x"},
		{a(text(" x&=+%")), "a=+x%26%3D%2B%25"},
		{a(text("\x00\xff~")), "a=%00%FF%7E"},
		{a(object(1)), ""},
		{a(api.Value{Kind: 6, Int: 1, Text: "x", Items: texts("x").Items}), ""},
		{a(api.Value{Kind: -1, Text: "x"}), ""},
		{a(api.Value{Kind: api.Obj, Int: 1, Items: texts("x").Items}), ""},
		{a(row()), ""},
		{a(row(row(), null(), row(row()))), ""},
		{a(texts("x")), "a%5B0%5D=x"},
		{a(texts("x", "y")), "a%5B0%5D=x&a%5B1%5D=y"},
		{a(a(a(text("x")))), "a%5Ba%5D%5Ba%5D=x"},
		{row(row(row(text("x")))), "0%5B0%5D%5B0%5D=x"},
		{texts("x", "y", "z"), "0=x&1=y&2=z"},
		{row(null(), text("x"), null(), null(), text("y"), null()), "1=x&4=y"},
		{row(object(1), row(), text("x"), row(null()), object(2)), "2=x"},
		{row(texts("a", "b"), text("c"), row(row(text("d")), text("e")), text("f")), "0%5B0%5D=a&0%5B1%5D=b&1=c&2%5B0%5D%5B0%5D=d&2%5B1%5D=e&3=f"},
		{listOf(0, under(word("longer name"), row(text("x"))), under(word("b"), texts("y")), under(word(""), text("z"))), "longer+name%5B0%5D=x&b%5B0%5D=y&=z"},
		{listOf(0, under(word(""), text("")), under(word("a"), text(""))), "=&a="},
		{listOf(0, under(word(""), a(text("x")))), "%5Ba%5D=x"},
		{a(listOf(0, under(word(""), text("x")))), "a%5B%5D=x"},
		{listOf(0, under(num(-5), listOf(0, under(num(math.MinInt), text("x"))))), "-5%5B-9223372036854775808%5D=x"},
		{listOf(-1, under(num(math.MaxInt), text("x"))), "9223372036854775807=x"},
		{listOf(0, under(word("a b.c[d]"), text("x"))), "a+b.c%5Bd%5D=x"},
		{a(listOf(0, under(word("]&=[ .\xff"), text("x")))), "a%5B%5D%26%3D%5B+.%FF%5D=x"},
		{listOf(0, under(word("05"), text("x")), under(word("5"), text("y")), under(api.Key{Int: 5, Text: "k"}, text("z"))), "05=x&5=y&5=z"},
		{nulls(3 * api.MaxItems), ""},
		{row(texts(make([]string, api.MaxPairs+1)...)), strings.TrimPrefix(strings.ReplaceAll(strings.ReplaceAll(numbered("!", 0, api.MaxPairs+1), "!", "0%5B"), "=", "%5D="), "&")},
	} {
		checkBuild(t, c.v, c.want)
	}
}

// TestP9_4_Deep: lists may lie as deep within one another as they lie in memory.
func TestP9_4_Deep(t *testing.T) {
	const lists = 1 << 16
	want := "k" + strings.Repeat("%5Bk%5D", lists-1) + "=x"
	if got, why := Build(within(lists, "k", text("x"))); got != want || why != api.OK {
		t.Errorf("Build of a deep list: %d bytes, not %d, %v", len(got), len(want), why)
	}
	if got, why := Build(within(lists, "k", null())); got != "" || why != api.OK {
		t.Errorf("Build of a deep list of nothing: %d bytes, %v", len(got), why)
	}
}
