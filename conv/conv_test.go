package conv

import (
	"math"
	"strings"
	"testing"

	"ostler/api"
)

func null() api.Value         { return api.Value{} }
func truth(n int) api.Value   { return api.Value{Kind: api.Bool, Int: n} }
func number(n int) api.Value  { return api.Value{Kind: api.Int, Int: n} }
func text(s string) api.Value { return api.Value{Kind: api.Text, Text: s} }
func object(n int) api.Value  { return api.Value{Kind: api.Obj, Int: n} }
func kind(n int) api.Value    { return api.Value{Kind: n} }
func list(v ...api.Value) api.Value {
	l := api.Value{Kind: api.List, Int: len(v)}
	for i, one := range v {
		l.Items = append(l.Items, api.Item{Key: api.Key{Int: i}, V: one})
	}
	return l
}

// sample is a value, with what it is as a truth, a number and a text, and its kind in a word.
type sample struct {
	v     api.Value
	truth bool
	n     int
	text  string
	why   api.Errno
	kind  string
}

// values are samples of each kind.
func values() []sample {
	return []sample{
		{null(), false, 0, "", api.OK, "null"},
		{truth(0), false, 0, "", api.OK, "bool"},
		{truth(1), true, 1, "1", api.OK, "bool"},
		{truth(2), true, 1, "1", api.OK, "bool"},
		{truth(-1), true, 1, "1", api.OK, "bool"},
		{number(0), false, 0, "0", api.OK, "int"},
		{number(1), true, 1, "1", api.OK, "int"},
		{number(-1), true, -1, "-1", api.OK, "int"},
		{number(2), true, 2, "2", api.OK, "int"},
		{number(-120), true, -120, "-120", api.OK, "int"},
		{number(math.MaxInt), true, math.MaxInt, "9223372036854775807", api.OK, "int"},
		{number(math.MinInt), true, math.MinInt, "-9223372036854775808", api.OK, "int"},
		{text(""), false, 0, "", api.OK, "string"},
		{text("0"), false, 0, "0", api.OK, "string"},
		{text("1"), true, 1, "1", api.OK, "string"},
		{text("00"), true, 0, "00", api.OK, "string"},
		{text(" 0"), true, 0, " 0", api.OK, "string"},
		{text("0 "), true, 0, "0 ", api.OK, "string"},
		{text("+0"), true, 0, "+0", api.OK, "string"},
		{text("-0"), true, 0, "-0", api.OK, "string"},
		{text("0\x00"), true, 0, "0\x00", api.OK, "string"},
		{text(" "), true, 0, " ", api.OK, "string"},
		{text("a"), true, 0, "a", api.OK, "string"},
		{text("-"), true, 0, "-", api.OK, "string"},
		{text("\x00"), true, 0, "\x00", api.OK, "string"},
		{text("\xff\xfe"), true, 0, "\xff\xfe", api.OK, "string"},
		{text(" 12x"), true, 12, " 12x", api.OK, "string"},
		{list(), false, 0, "", api.ErrType, "array"},
		{api.Value{Kind: api.List, Items: []api.Item{}}, false, 0, "", api.ErrType, "array"},
		{api.Value{Kind: api.List, Int: 5}, false, 0, "", api.ErrType, "array"},
		{list(null()), true, 1, "", api.ErrType, "array"},
		{list(number(7), number(8)), true, 1, "", api.ErrType, "array"},
		{object(1), true, 1, "", api.ErrType, "object"},
		{object(9), true, 1, "", api.ErrType, "object"},
		{object(0), true, 1, "", api.ErrType, "object"},
		{kind(6), true, 1, "", api.ErrType, "unknown"},
		{kind(-1), true, 1, "", api.ErrType, "unknown"},
		{kind(math.MaxInt), true, 1, "", api.ErrType, "unknown"},
		{kind(math.MinInt), true, 1, "", api.ErrType, "unknown"},
		{api.Value{Kind: 6, Int: 5, Text: "5"}, true, 1, "", api.ErrType, "unknown"},
	}
}

// blurred is a value with something in the fields that its kind does not have.
func blurred(v api.Value) api.Value {
	if v.Kind != api.Bool && v.Kind != api.Int {
		v.Int = 77
	}
	if v.Kind != api.Text {
		v.Text = "78"
	}
	if v.Kind != api.List {
		v.Items = []api.Item{{V: number(79)}}
	}
	return v
}

// TestP6_1_Truth: what is false, and that all else is true.
func TestP6_1_Truth(t *testing.T) {
	for _, c := range values() {
		for _, v := range []api.Value{c.v, blurred(c.v)} {
			if got := Truth(v); got != c.truth {
				t.Errorf("Truth(%#v) = %v", v, got)
			}
		}
	}
}

// TestP6_2_Number: what a value of each kind is as a number.
func TestP6_2_Number(t *testing.T) {
	for _, c := range values() {
		for _, v := range []api.Value{c.v, blurred(c.v)} {
			if got := Number(v); got != c.n {
				t.Errorf("Number(%#v) = %d, not %d", v, got, c.n)
			}
		}
	}
}

// TestP6_2_Numeric: texts that are numeric, and their numbers; each of them begins with that number, too.
func TestP6_2_Numeric(t *testing.T) {
	for _, c := range []struct {
		s string
		n int
	}{
		{"0", 0},
		{"7", 7},
		{"120", 120},
		{"+7", 7},
		{"-7", -7},
		{"+0", 0},
		{"-0", 0},
		{"007", 7},
		{"-007", -7},
		{"+000", 0},
		{" 7", 7},
		{"7 ", 7},
		{"\t\n\v\f\r -7\r\f\v\n\t ", -7},
		{"9223372036854775806", math.MaxInt - 1},
		{"9223372036854775807", math.MaxInt},
		{"9223372036854775808", math.MaxInt},
		{"9223372036854775809", math.MaxInt},
		{"18446744073709551616", math.MaxInt},
		{"99999999999999999999", math.MaxInt},
		{"+99999999999999999999", math.MaxInt},
		{"-9223372036854775807", math.MinInt + 1},
		{"-9223372036854775808", math.MinInt},
		{"-9223372036854775809", math.MinInt},
		{"-18446744073709551617", math.MinInt},
		{" -99999999999999999999 ", math.MinInt},
		{"0000000000000000000000000009", 9},
		{"-0000000000000000000000000009", -9},
		{strings.Repeat("0", api.MaxText) + "5", 5},
		{strings.Repeat("1", api.MaxText+1), math.MaxInt},
		{"-" + strings.Repeat("1", api.MaxText+1), math.MinInt},
		{strings.Repeat(" ", api.MaxText) + "5" + strings.Repeat("\n", api.MaxText), 5},
	} {
		if n, ok := Numeric(c.s); n != c.n || !ok {
			t.Errorf("Numeric(%.40q) = %d, %v, not %d", c.s, n, ok, c.n)
		}
		if n := Begins(c.s); n != c.n {
			t.Errorf("Begins(%.40q) = %d, not %d", c.s, n, c.n)
		}
	}
}

// TestP6_2_Begins: texts that are not numeric, and the numbers with which they begin.
func TestP6_2_Begins(t *testing.T) {
	for _, c := range []struct {
		s string
		n int
	}{
		{"", 0},
		{" ", 0},
		{"\t\n\v\f\r ", 0},
		{"-", 0},
		{"+", 0},
		{" - ", 0},
		{"--1", 0},
		{"+-1", 0},
		{"-+1", 0},
		{"- 1", 0},
		{"a", 0},
		{"a1", 0},
		{".5", 0},
		{"\x001", 0},
		{"\x081", 0},
		{"\x0e1", 0},
		{"\x1f1", 0},
		{"\u00a01", 0},
		{"\u20281", 0},
		{"\x851", 0},
		{"\xa01", 0},
		{"\xff1", 0},
		{"\u0661", 0},
		{"\uff11", 0},
		{"/", 0},
		{":", 0},
		{"12x", 12},
		{" 12x", 12},
		{"12 x", 12},
		{"12 3", 12},
		{"12 +3", 12},
		{"12+3", 12},
		{"12-3", 12},
		{"12-", 12},
		{"-12.5", -12},
		{"1e3", 1},
		{"0x1A", 0},
		{"1_000", 1},
		{"1,000", 1},
		{"+12\x00", 12},
		{"12\u00a0", 12},
		{"12\xff", 12},
		{"12 \xff", 12},
		{"12\u0663", 12},
		{"\n-99999999999999999999.", math.MinInt},
		{"99999999999999999999x", math.MaxInt},
		{"9223372036854775807 8", math.MaxInt},
		{strings.Repeat("1", api.MaxText) + "x", math.MaxInt},
	} {
		if n, ok := Numeric(c.s); n != 0 || ok {
			t.Errorf("Numeric(%.40q) = %d, %v", c.s, n, ok)
		}
		if n := Begins(c.s); n != c.n {
			t.Errorf("Begins(%.40q) = %d, not %d", c.s, n, c.n)
		}
		if n := Number(text(c.s)); n != c.n {
			t.Errorf("Number(%.40q) = %d, not %d", c.s, n, c.n)
		}
	}
}

// TestP6_3_Text: what a value of each kind is as a text.
func TestP6_3_Text(t *testing.T) {
	for _, c := range values() {
		for _, v := range []api.Value{c.v, blurred(c.v)} {
			if got, why := Text(v); got != c.text || why != c.why {
				t.Errorf("Text(%#v) = %q, %v, not %q, %v", v, got, why, c.text, c.why)
			}
		}
	}
	long := strings.Repeat("a", api.MaxText+1)
	if got, why := Text(text(long)); got != long || why != api.OK {
		t.Error("a long text is not itself")
	}
}

// TestP6_3_Kind: a value's kind in a word.
func TestP6_3_Kind(t *testing.T) {
	for _, c := range values() {
		for _, v := range []api.Value{c.v, blurred(c.v)} {
			if got := Kind(v); got != c.kind {
				t.Errorf("Kind(%#v) = %q, not %q", v, got, c.kind)
			}
		}
	}
}

// TestP6_3_Digits: a number's text.
func TestP6_3_Digits(t *testing.T) {
	for _, c := range []struct {
		n int
		s string
	}{
		{0, "0"},
		{7, "7"},
		{-7, "-7"},
		{10, "10"},
		{-100, "-100"},
		{1234567890, "1234567890"},
		{math.MaxInt, "9223372036854775807"},
		{math.MinInt, "-9223372036854775808"},
		{math.MinInt + 1, "-9223372036854775807"},
	} {
		if got := Digits(c.n); got != c.s {
			t.Errorf("Digits(%d) = %q", c.n, got)
		}
	}
}
