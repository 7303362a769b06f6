package conv

import (
	"math"
	"strings"
	"testing"

	"ostler/api"
)

// checkOrder holds the order of two values, and of the two the other way round.
func checkOrder(t *testing.T, a, b api.Value, want int) {
	t.Helper()
	for _, c := range []struct {
		a, b api.Value
		want int
	}{{a, b, want}, {b, a, -want}, {blurred(a), blurred(b), want}} {
		if got, why := Order(c.a, c.b); got != c.want || why != api.OK {
			t.Errorf("Order(%#v, %#v) = %d, %v, not %d", c.a, c.b, got, why, c.want)
		}
	}
}

// TestP6_4_Texts: two texts, by their numbers, if both are numeric, else byte by byte.
func TestP6_4_Texts(t *testing.T) {
	for _, c := range []struct {
		a, b string
		want int
	}{
		{"10", "9", 1},
		{"10", "9x", -1},
		{"10x", "9", -1},
		{"10x", "9x", -1},
		{"1", "01", 0},
		{" 1", "1\n", 0},
		{"+1", "1", 0},
		{"-0", "0", 0},
		{"-1", "-2", 1},
		{"-1", "1", -1},
		{"99999999999999999999", "88888888888888888888", 0},
		{"-99999999999999999999", "-88888888888888888888", 0},
		{"9223372036854775807", "9223372036854775808", 0},
		{"9223372036854775806", "9223372036854775807", -1},
		{"1e3", "1000", 1},
		{"", "0", -1},
		{"", "", 0},
		{"", "\x00", -1},
		{"", " ", -1},
		{"-", "+", 1},
		{"a", "a", 0},
		{"a", "b", -1},
		{"a", "ab", -1},
		{"ab", "b", -1},
		{"B", "a", -1},
		{"a", "\xff", -1},
		{"\xc3\xa9", "\xff", -1},
		{"\uffff", "\U00010000", -1},
		{"1 ", "1 x", -1},
		{strings.Repeat("a", api.MaxText), strings.Repeat("a", api.MaxText+1), -1},
	} {
		checkOrder(t, text(c.a), text(c.b), c.want)
	}
}

// TestP6_4_Truths: a truth beside anything plain, and a null beside what is no text.
func TestP6_4_Truths(t *testing.T) {
	falses := []api.Value{truth(0), null(), number(0), text(""), text("0")}
	trues := []api.Value{truth(1), truth(2), truth(-1), number(1), number(-1), number(math.MinInt), text("00"), text("a"), text(" "), text("-1")}
	for _, no := range falses {
		checkOrder(t, truth(0), no, 0)
		checkOrder(t, truth(1), no, 1)
		checkOrder(t, truth(-5), no, 1)
		if no.Kind != api.Text {
			checkOrder(t, null(), no, 0)
		}
	}
	for _, yes := range trues {
		checkOrder(t, truth(0), yes, -1)
		checkOrder(t, truth(1), yes, 0)
		checkOrder(t, truth(-5), yes, 0)
		if yes.Kind != api.Text {
			checkOrder(t, null(), yes, -1)
		}
	}
}

// TestP6_4_NullText: a null beside a text is the empty text, byte by byte.
func TestP6_4_NullText(t *testing.T) {
	checkOrder(t, null(), text(""), 0)
	for _, s := range []string{"0", "00", "-1", "a", " ", "\x00", "\xff"} {
		checkOrder(t, null(), text(s), -1)
	}
}

// TestP6_4_Ints: two numbers, and a number beside a text.
func TestP6_4_Ints(t *testing.T) {
	for _, c := range []struct {
		a, b int
		want int
	}{
		{0, 0, 0},
		{10, 9, 1},
		{-1, 1, -1},
		{-1, -2, 1},
		{math.MinInt, math.MaxInt, -1},
		{math.MinInt, 1, -1},
		{math.MaxInt, -1, 1},
		{math.MaxInt, math.MaxInt - 1, 1},
	} {
		checkOrder(t, number(c.a), number(c.b), c.want)
	}
	for _, c := range []struct {
		n    int
		s    string
		want int
	}{
		{10, "9", 1},
		{10, " +09\n", 1},
		{0, "-0", 0},
		{0, "00", 0},
		{5, " 5 ", 0},
		{-2, "-1", -1},
		{math.MaxInt, "99999999999999999999", 0},
		{math.MaxInt - 1, "99999999999999999999", -1},
		{math.MinInt, "-99999999999999999999", 0},
		{0, "a", -1},
		{0, "", 1},
		{0, "-", 1},
		{-1, "-", 1},
		{-1, "a", -1},
		{10, "9x", -1},
		{9, "10x", 1},
		{12, "12x", -1},
		{12, "12 x", -1},
		{12, "12\x00", -1},
		{12, "1x", -1},
		{12, " x", 1},
		{1000, "1e3", -1},
		{math.MinInt, "-9223372036854775808x", -1},
		{math.MinInt, "-9223372036854775807x", 1},
	} {
		checkOrder(t, number(c.n), text(c.s), c.want)
	}
}

// TestP6_4_Type: a value with items, an object, and what is of no kind has no order.
func TestP6_4_Type(t *testing.T) {
	wrong := []api.Value{list(), list(null()), object(1), object(0), kind(6), kind(-1), kind(math.MinInt)}
	for _, a := range wrong {
		for _, c := range values() {
			for _, pair := range [][2]api.Value{{a, c.v}, {c.v, a}, {blurred(a), blurred(c.v)}} {
				if got, why := Order(pair[0], pair[1]); got != 0 || why != api.ErrType {
					t.Errorf("Order(%#v, %#v) = %d, %v", pair[0], pair[1], got, why)
				}
			}
		}
	}
}

// TestP6_5_Same: the same are two plain values of one kind that are equal.
func TestP6_5_Same(t *testing.T) {
	for _, c := range []struct {
		a, b api.Value
		want bool
	}{
		{null(), null(), true},
		{truth(0), truth(0), true},
		{truth(1), truth(1), true},
		{truth(1), truth(2), true},
		{truth(-1), truth(1), true},
		{truth(0), truth(1), false},
		{truth(0), truth(-1), false},
		{number(0), number(0), true},
		{number(math.MinInt), number(math.MinInt), true},
		{number(1), number(2), false},
		{number(1), number(-1), false},
		{text(""), text(""), true},
		{text("a"), text("a"), true},
		{text("a"), text("A"), false},
		{text("a"), text("ab"), false},
		{text("1"), text("01"), false},
		{text("1"), text("1 "), false},
		{text("\xff"), text("\xfe"), false},
		{null(), truth(0), false},
		{null(), number(0), false},
		{null(), text(""), false},
		{truth(0), number(0), false},
		{truth(0), text(""), false},
		{truth(1), number(1), false},
		{truth(1), text("1"), false},
		{number(0), text("0"), false},
		{number(1), text("1"), false},
		{list(), list(), false},
		{list(null()), list(null()), false},
		{list(), null(), false},
		{object(1), object(1), false},
		{object(1), number(1), false},
		{kind(6), kind(6), false},
		{kind(-1), kind(-1), false},
	} {
		for _, v := range [][2]api.Value{{c.a, c.b}, {c.b, c.a}, {c.a, blurred(c.b)}} {
			if got := Same(v[0], v[1]); got != c.want {
				t.Errorf("Same(%#v, %#v) = %v", v[0], v[1], got)
			}
		}
	}
}
