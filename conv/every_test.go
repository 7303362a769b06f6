package conv

import (
	"math"
	"math/big"
	"math/rand"
	"regexp"
	"strings"
	"testing"

	"ostler/api"
)

// numericPattern is the chapter's numeric text once more.
var numericPattern = regexp.MustCompile(`^[ \t\n\v\f\r]*([+-]?[0-9]+)[ \t\n\v\f\r]*$`)

// numericByPattern is a text's number, if it is one.
func numericByPattern(s string) (int, bool) {
	m := numericPattern.FindStringSubmatch(s)
	if m == nil {
		return 0, false
	}
	n, _ := new(big.Int).SetString(strings.TrimPrefix(m[1], "+"), 10)
	switch {
	case n.Cmp(big.NewInt(math.MaxInt)) > 0:
		return math.MaxInt, true
	case n.Cmp(big.NewInt(math.MinInt)) < 0:
		return math.MinInt, true
	}
	return int(n.Int64()), true
}

// beginsByPattern is the number of the longest beginning that is numeric, of all beginnings.
func beginsByPattern(s string) int {
	for size := len(s); size > 0; size-- {
		if n, ok := numericByPattern(s[:size]); ok {
			return n
		}
	}
	return 0
}

func checkNumeric(t *testing.T, s string) {
	t.Helper()
	wantN, want := numericByPattern(s)
	if n, ok := Numeric(s); n != wantN || ok != want {
		t.Fatalf("Numeric(%q) = %d, %v, not %d, %v", s, n, ok, wantN, want)
	}
	if n := Begins(s); n != beginsByPattern(s) {
		t.Fatalf("Begins(%q) = %d, not %d", s, n, beginsByPattern(s))
	}
}

// everyText hands over all texts of at most so many of the letters.
func everyText(letters []string, most int, hand func(string)) {
	hand("")
	if most == 0 {
		return
	}
	for _, first := range letters {
		everyText(letters, most-1, func(rest string) { hand(first + rest) })
	}
}

// TestP6_2_EveryText: all short texts against the pattern.
func TestP6_2_EveryText(t *testing.T) {
	everyText([]string{"0", "7", "-", "+", " ", "\v", "x", "\xff"}, 5, func(s string) { checkNumeric(t, s) })
	for one := range 256 {
		for two := range 256 {
			s := string([]byte{byte(one), byte(two)})
			checkNumeric(t, s)
			checkNumeric(t, "7"+s)
			checkNumeric(t, s+"7")
		}
	}
}

// TestP6_2_Chance: long texts of digits and some others against the pattern.
func TestP6_2_Chance(t *testing.T) {
	chance := rand.New(rand.NewSource(6))
	for range 20000 {
		var b strings.Builder
		for range chance.Intn(3) {
			b.WriteByte(" \t\n\v\f\r"[chance.Intn(6)])
		}
		b.WriteString([]string{"", "", "-", "+"}[chance.Intn(4)])
		b.WriteString([]string{"", "", "922337203685477580", "0000"}[chance.Intn(4)])
		for range chance.Intn(22) {
			b.WriteByte("0123456789"[chance.Intn(10)])
		}
		b.WriteString([]string{"", "", " ", "\n", " 1", "x", "\x85"}[chance.Intn(7)])
		checkNumeric(t, b.String())
	}
}

// pool is values by the hundred, plain ones and others.
func pool() []api.Value {
	var all []api.Value
	for _, c := range values() {
		all = append(all, c.v)
	}
	for _, n := range []int{-12, -2, 2, 9, 10, 12} {
		all = append(all, truth(n), number(n), text(Digits(n)), text(" "+Digits(n)), text(Digits(n)+"x"))
	}
	everyText([]string{"0", "1", "-", " ", "a"}, 2, func(s string) { all = append(all, text(s)) })
	return all
}

func numberOrder(m, n int) int {
	return big.NewInt(int64(m)).Cmp(big.NewInt(int64(n)))
}

// orderByKinds is the order as the chapter's table of kinds tells it.
func orderByKinds(a, b api.Value) (int, api.Errno) {
	if a.Kind < api.Null || a.Kind > api.Text || b.Kind < api.Null || b.Kind > api.Text {
		return 0, api.ErrType
	}
	if a.Kind > b.Kind {
		n, why := orderByKinds(b, a)
		return -n, why
	}
	bytes := func(s, u string) (int, api.Errno) {
		for at := range min(len(s), len(u)) {
			switch {
			case s[at] < u[at]:
				return -1, api.OK
			case s[at] > u[at]:
				return 1, api.OK
			}
		}
		return numberOrder(len(s), len(u)), api.OK
	}
	numbers := func(m, n int) (int, api.Errno) { return numberOrder(m, n), api.OK }
	switch [2]int{a.Kind, b.Kind} {
	case [2]int{api.Null, api.Text}:
		return bytes("", b.Text)
	case [2]int{api.Int, api.Int}:
		return numbers(a.Int, b.Int)
	case [2]int{api.Int, api.Text}:
		if n, ok := numericByPattern(b.Text); ok {
			return numbers(a.Int, n)
		}
		return bytes(big.NewInt(int64(a.Int)).String(), b.Text)
	case [2]int{api.Text, api.Text}:
		m, mIs := numericByPattern(a.Text)
		n, nIs := numericByPattern(b.Text)
		if mIs && nIs {
			return numbers(m, n)
		}
		return bytes(a.Text, b.Text)
	}
	return numbers(map[bool]int{true: 1}[Truth(a)], map[bool]int{true: 1}[Truth(b)])
}

// TestP6_4_EveryPair: all pairs against the table of kinds.
func TestP6_4_EveryPair(t *testing.T) {
	all := pool()
	for _, a := range all {
		for _, b := range all {
			n, why := Order(a, b)
			wantN, want := orderByKinds(a, b)
			if n != wantN || why != want {
				t.Errorf("Order(%#v, %#v) = %d, %v, not %d, %v", a, b, n, why, wantN, want)
			}
		}
	}
}

// TestP6_6_Round: the order the other way round.
func TestP6_6_Round(t *testing.T) {
	all := pool()
	for _, a := range all {
		for _, b := range all {
			n, why := Order(a, b)
			m, whyRound := Order(b, a)
			if m != -n || why != whyRound {
				t.Errorf("Order(%#v, %#v) = %d, %v, and the other way round %d, %v", a, b, n, why, m, whyRound)
			}
		}
	}
}

// TestP6_7_Digits: what Digits says is numeric, of that number.
func TestP6_7_Digits(t *testing.T) {
	chance := rand.New(rand.NewSource(67))
	check := func(n int) {
		if m, ok := Numeric(Digits(n)); m != n || !ok {
			t.Errorf("Numeric(%q) = %d, %v", Digits(n), m, ok)
		}
	}
	for n := range 2000 {
		check(n)
		check(-n)
		check(math.MaxInt - n)
		check(math.MinInt + n)
		check(int(chance.Uint64()) >> chance.Intn(64))
	}
}

// TestP6_8_Same: same values are of order 0.
func TestP6_8_Same(t *testing.T) {
	all := pool()
	for _, a := range all {
		for _, b := range all {
			if n, why := Order(a, b); Same(a, b) && (n != 0 || why != api.OK) {
				t.Errorf("%#v and %#v are the same, and of order %d, %v", a, b, n, why)
			}
		}
		if plain := a.Kind >= api.Null && a.Kind <= api.Text; Same(a, a) != plain {
			t.Errorf("Same(%#v, itself) = %v", a, !plain)
		}
	}
}

// TestR4_Kept: no call writes into what it was handed.
func TestR4_Kept(t *testing.T) {
	v := list(number(1), text("a"))
	Truth(v)
	Number(v)
	Text(v)
	Kind(v)
	Order(v, v)
	Same(v, v)
	if len(v.Items) != 2 || v.Int != 2 || !Same(v.Items[0].V, number(1)) || !Same(v.Items[1].V, text("a")) {
		t.Errorf("what was handed in is %#v", v)
	}
}
