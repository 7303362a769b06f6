package url

import (
	"math"
	"reflect"
	"strconv"
	"strings"
	"testing"

	"ostler/api"
	"ostler/deep"
)

func null() api.Value         { return api.Value{} }
func truth(n int) api.Value   { return api.Value{Kind: api.Bool, Int: n} }
func number(n int) api.Value  { return api.Value{Kind: api.Int, Int: n} }
func text(s string) api.Value { return api.Value{Kind: api.Text, Text: s} }
func object(n int) api.Value  { return api.Value{Kind: api.Obj, Int: n} }
func num(n int) api.Key       { return api.Key{Int: n} }
func word(s string) api.Key   { return api.Key{IsText: true, Text: s} }

func under(k api.Key, v api.Value) api.Item { return api.Item{Key: k, V: v} }

// listOf is the list of some items, with a next number, right or wrong.
func listOf(next int, items ...api.Item) api.Value {
	return api.Value{Kind: api.List, Int: next, Items: items}
}

// row is the list of some values under the numbers from 0 on.
func row(values ...api.Value) api.Value {
	v := listOf(len(values))
	for i, one := range values {
		v.Items = append(v.Items, under(num(i), one))
	}
	return v
}

// texts is the list of some texts under the numbers from 0 on.
func texts(all ...string) api.Value {
	values := make([]api.Value, len(all))
	for i, s := range all {
		values[i] = text(s)
	}
	return row(values...)
}

// nulls is a list of so many nulls.
func nulls(n int) api.Value {
	return row(make([]api.Value, n)...)
}

// within is a value within so many lists, each with one item under a key that is a text.
func within(lists int, key string, v api.Value) api.Value {
	for range lists {
		v = listOf(0, under(word(key), v))
	}
	return v
}

// clone is a value made anew, by other means than those that are tested: a list without items has nil.
func clone(v api.Value) api.Value {
	if len(v.Items) == 0 {
		v.Items = nil
		return v
	}
	items := make([]api.Item, len(v.Items))
	for i := range v.Items {
		items[i] = under(v.Items[i].Key, clone(v.Items[i].V))
	}
	v.Items = items
	return v
}

// blot writes into all of a value that can be written into.
func blot(v api.Value) {
	for i := range v.Items {
		blot(v.Items[i].V)
		v.Items[i] = under(word("blot"), text("blot"))
	}
	if cap(v.Items) > len(v.Items) {
		_ = append(v.Items, under(word("more"), null()))
	}
}

// brief is a value's text, cut where it is long.
func brief(v api.Value) string {
	s, why := deep.Show(v)
	if why != api.OK {
		return "a value that may not be, with " + strconv.Itoa(len(v.Items)) + " items"
	}
	if len(s) > 600 {
		s = s[:600] + ".."
	}
	return s + " (next " + strconv.Itoa(v.Int) + ")"
}

// checkPut holds what Put answers, and that it neither writes into what was handed in nor shares it.
func checkPut(t *testing.T, into api.Value, name, put string, want api.Value) {
	t.Helper()
	was, want := clone(into), clone(want)
	got, why := Put(into, name, put)
	if why != api.OK || !reflect.DeepEqual(clone(got), want) {
		t.Fatalf("Put(%s, %.200q, %.80q) = %s, %v, not %s", brief(was), name, put, brief(got), why, brief(want))
	}
	blot(got)
	if !reflect.DeepEqual(clone(into), was) {
		t.Fatalf("Put(%s, %.200q) turns it, or shares it: %s", brief(was), name, brief(into))
	}
	if again, _ := Put(into, name, put); !reflect.DeepEqual(clone(again), want) {
		t.Fatalf("Put(%s, %.200q) once more = %s", brief(was), name, brief(again))
	}
}

func checkQuery(t *testing.T, s string, want api.Value) {
	t.Helper()
	got := Query(s)
	if !reflect.DeepEqual(clone(got), clone(want)) {
		t.Fatalf("Query(%.300q) = %s, not %s", s, brief(got), brief(want))
	}
	blot(got)
	if again := Query(s); !reflect.DeepEqual(clone(again), clone(want)) {
		t.Fatalf("Query(%.300q) once more = %s", s, brief(again))
	}
}

// TestP9_3_Query: pieces, names and texts of a query.
func TestP9_3_Query(t *testing.T) {
	a := func(s string) api.Value { return listOf(0, under(word("a"), text(s))) }
	for _, c := range []struct {
		s    string
		want api.Value
	}{
		{"", row()},
		{"&", row()},
		{"&&&", row()},
		{"=", row()},
		{"=x", row()},
		{"==", row()},
		{"a", a("")},
		{"a=", a("")},
		{"a=x", a("x")},
		{"a==x", a("=x")},
		{"a=x=y", a("x=y")},
		{"a=x=", a("x=")},
		{"&a=x", a("x")},
		{"a=x&", a("x")},
		{"&&a=x&&&b=y&", listOf(0, under(word("a"), text("x")), under(word("b"), text("y")))},
		{"b=1&a=2&b=3", listOf(0, under(word("b"), text("3")), under(word("a"), text("2")))},
		{"A=1&a=2", listOf(0, under(word("A"), text("1")), under(word("a"), text("2")))},
		{"a=x;b=y", a("x;b=y")},
		{"a=x?b#c", a("x?b#c")},
		{"a=1+2%203", a("1 2 3")},
		{"a=%26%3D%2B%25", a("&=+%")},
		{"%61=%78", a("x")},
		{"a=%", a("%")},
		{"a=%4", a("%4")},
		{"a=%zz%4g%G4", a("%zz%4g%G4")},
		{"a=%00%ff%C3%a9", a("\x00\xff\u00e9")},
		{"a=\x00\xff\n", a("\x00\xff\n")},
		{"a%3Db=c", listOf(0, under(word("a=b"), text("c")))},
		{"a%26b=c", listOf(0, under(word("a&b"), text("c")))},
		{"a%5B%5D=x&a%5bk%5d=y", listOf(0, under(word("a"), listOf(1, under(num(0), text("x")), under(word("k"), text("y")))))},
		{"a%5Bk]=x", listOf(0, under(word("a"), listOf(0, under(word("k"), text("x")))))},
		{"a[b%5D]=x", listOf(0, under(word("a"), listOf(0, under(word("b"), text("x")))))},
		{"a[b=c]=d", listOf(0, under(word("a"), text("c]=d")))},
		{"a[b&c]=d", listOf(0, under(word("a"), text("")), under(word("c]"), text("d")))},
		{"a+b=1&a%20b=2&a.b=3&a%2Eb=4", listOf(0, under(word("a_b"), text("4")))},
		{"+=x", listOf(0, under(word("_"), text("x")))},
		{"%5B=x", row()},
		{"[a]=x", row()},
		{"5=a", listOf(6, under(num(5), text("a")))},
		{"05=a&5=b&%35=c", listOf(6, under(word("05"), text("a")), under(num(5), text("c")))},
		{"-1=a&-0=b", listOf(0, under(num(-1), text("a")), under(word("-0"), text("b")))},
		{"9223372036854775807=a&0=b", listOf(-1, under(num(math.MaxInt), text("a")), under(num(0), text("b")))},
		{"a=" + strings.Repeat("x", api.MaxText+1), a(strings.Repeat("x", api.MaxText+1))},
	} {
		checkQuery(t, c.s, c.want)
	}
}

// numbered is pieces of a query from one number on to below another, with a name ahead of each number.
func numbered(name string, from, to int) string {
	var s strings.Builder
	for i := from; i < to; i++ {
		s.WriteString("&" + name + strconv.Itoa(i) + "=")
	}
	return s.String()
}

// TestP9_3_MaxPairs: just so many pieces are taken that are not empty; such as put nothing count, too.
func TestP9_3_MaxPairs(t *testing.T) {
	all := listOf(0)
	for i := range api.MaxPairs {
		all.Items = append(all.Items, under(word("k"+strconv.Itoa(i)), text("")))
	}
	most := api.MaxPairs
	first := func(n int) api.Value { return listOf(0, all.Items[:n]...) }
	checkQuery(t, numbered("k", 0, most-1), first(most-1))
	checkQuery(t, numbered("k", 0, most), all)
	checkQuery(t, numbered("k", 0, most+1), all)
	checkQuery(t, numbered("k", 0, 3*most)+"&k0=x", all)
	checkQuery(t, strings.Repeat("&", 5*most)+strings.ReplaceAll(numbered("k", 0, most+1), "&", "&&&"), all)
	checkQuery(t, "=&=x&[]&[a]=b"+numbered("k", 0, most), first(most-4))
	checkQuery(t, "k0=&k0=&k0="+numbered("k", 0, most), first(most-3))
	checkQuery(t, strings.Repeat("=x&", most)+"a=b", row())
	checkQuery(t, strings.Repeat("=x&", most-1)+"a=b&c=d", listOf(0, under(word("a"), text("b"))))
	checkQuery(t, strings.Repeat("a[]=&", most+5), listOf(0, under(word("a"), texts(make([]string, most)...))))
}

// TestP9_3_MaxItems: what would be too many items in all is not put, what has room behind it is.
func TestP9_3_MaxItems(t *testing.T) {
	var s strings.Builder
	want := listOf(0)
	for i := range api.MaxItems / 4 {
		s.WriteString("&k" + strconv.Itoa(i) + "[a][b][c]=")
		want.Items = append(want.Items, under(word("k"+strconv.Itoa(i)), listOf(0, under(word("a"), listOf(0, under(word("b"), listOf(0, under(word("c"), text("")))))))))
	}
	checkQuery(t, s.String(), want)
	checkQuery(t, s.String()+"&x=1&k0[a][b][d]=1&k0[a][b][]=1&k0[]=1&k0[a][b][c][]=1", want)
	want.Items[1].V.Items[0].V.Items[0].V.Items[0].V = text("new")
	checkQuery(t, s.String()+"&x=1&k1[a][b][c]=new", want)
	want.Items[1].V = text("gone")
	want.Items = append(want.Items, under(word("x"), listOf(0, under(word("y"), text("2")))))
	checkQuery(t, s.String()+"&x=1&k1=gone&x[y][z][1][2]=1&x[y]=2", want)
	want.Items[2].V.Items[0].V = text("also")
	want.Items[3].V.Items[0].V.Items = append(want.Items[3].V.Items[0].V.Items, under(word("e"), text("3")))
	want.Items[4].V.Items = append(want.Items[4].V.Items, under(num(0), text("4")))
	want.Items[4].V.Int = 1
	want.Items = append(want.Items, under(word("z"), text("5")))
	checkQuery(t, s.String()+"&k1=gone&x[y]=2&k2[a]=also&k3[a][e]=3&k4[]=4&z=5&w=6", want)
}

// TestP9_3_MaxDeep: a name with more parts than may lie within one another puts nothing.
func TestP9_3_MaxDeep(t *testing.T) {
	steps := func(n int) string { return strings.Repeat("[k]", n) }
	at := func(parts int) api.Value { return listOf(0, under(word("a"), within(parts-1, "k", text("x")))) }
	checkQuery(t, "a"+steps(api.MaxDeep-2)+"=x", at(api.MaxDeep-1))
	checkQuery(t, "a"+steps(api.MaxDeep-1)+"=x", at(api.MaxDeep))
	checkQuery(t, "a"+steps(api.MaxDeep)+"=x", row())
	checkQuery(t, "a"+steps(api.MaxDeep+1)+"=x", row())
	checkQuery(t, "a"+steps(1<<16)+"=x", row())
	checkQuery(t, "a"+steps(api.MaxDeep-1)+"[k=x", at(api.MaxDeep))
	checkQuery(t, "a"+steps(api.MaxDeep-1)+"."+steps(9)+"=x", at(api.MaxDeep))
	checkQuery(t, "a"+strings.Repeat("[]", api.MaxDeep)+"=x&b=y", listOf(0, under(word("b"), text("y"))))
	checkQuery(t, "a"+steps(api.MaxDeep-1)+"=x&a"+steps(api.MaxDeep)+"=y", at(api.MaxDeep))
	if v := Query("a" + steps(api.MaxDeep-1) + "=x"); !deep.Right(v) {
		t.Error("the deepest list may not be")
	}
}

// TestExamples: those of the chapter, and of the whole.
func TestExamples(t *testing.T) {
	checkQuery(t, "a[b][]=1&a[b][]=2&c=x+y&a[b]=3&d.e[=4", listOf(0,
		under(word("a"), listOf(0, under(word("b"), text("3")))),
		under(word("c"), text("x y")),
		under(word("d_e"), text("4"))))
	checkQuery(t, "a[]=1&a[]=2", listOf(0, under(word("a"), texts("1", "2"))))
	checkBuild(t, listOf(0,
		under(word("a"), listOf(1, under(num(0), text("x")), under(word("k"), truth(1)))),
		under(word("n"), null())), "a%5B0%5D=x&a%5Bk%5D=1")
}
