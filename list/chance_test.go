package list

import (
	"math"
	"math/big"
	"math/rand"
	"regexp"
	"slices"
	"strconv"
	"testing"

	"ostler/api"
)

// digitsPattern is the digits of a number once more.
var digitsPattern = regexp.MustCompile(`^(0|-?[1-9][0-9]*)$`)

// normByPattern is a key's one form.
func normByPattern(k api.Key) api.Key {
	if !k.IsText {
		return num(k.Int)
	}
	if digitsPattern.MatchString(k.Text) {
		if n, _ := new(big.Int).SetString(k.Text, 10); n.IsInt64() {
			return num(int(n.Int64()))
		}
	}
	return word(k.Text)
}

// everyText hands over all texts of at most so many of the letters.
func everyText(letters []string, most int, hand func(string)) {
	hand("")
	if most == 0 {
		return
	}
	for _, first := range letters {
		everyText(letters, most-1, func(rest string) { hand(first + rest) })
	}
}

// TestP7_5_EveryText: all short texts, and long ones about the ends of 64 bits, against the pattern.
func TestP7_5_EveryText(t *testing.T) {
	held := func(s string) {
		k := api.Key{IsText: true, Int: 3, Text: s}
		if got := Norm(k); got != normByPattern(k) || Norm(got) != got {
			t.Fatalf("Norm of the text %q = %#v", s, got)
		}
	}
	everyText([]string{"0", "7", "-", "+", " ", "_", "x", "\xff"}, 5, held)
	for one := range 256 {
		for _, s := range []string{"", "0", "7", "-", "-7", "922337203685477580", "-922337203685477580", "1000000000000000000"} {
			held(s + string([]byte{byte(one)}))
			held(string([]byte{byte(one)}) + s)
		}
	}
	for n := range 1000 {
		for _, at := range []int{n, math.MaxInt - n, math.MinInt + n} {
			s := strconv.Itoa(at)
			held(s)
			held("-" + s)
			held("0" + s)
			held(s + "0")
		}
	}
}

// model is a list told once more, without a map: its items, and one more than the highest number that ever was (0, if none was above -1), which 64 bits may not hold.
type model struct {
	items []pair
	next  *big.Int
}

func (m *model) place(k api.Key) int {
	return slices.IndexFunc(m.items, func(one pair) bool { return one.key == k })
}

func (m *model) set(k api.Key, v string) api.Errno {
	k = normByPattern(k)
	if i := m.place(k); i >= 0 {
		m.items[i].v = v
		return api.OK
	}
	if len(m.items) == api.MaxItems {
		return api.ErrFull
	}
	m.items = append(m.items, pair{k, v})
	if n := big.NewInt(int64(k.Int)); !k.IsText && n.Cmp(m.next) >= 0 {
		m.next = n.Add(n, big.NewInt(1))
	}
	return api.OK
}

func (m *model) append(v string) (api.Key, api.Errno) {
	if !m.next.IsInt64() {
		return api.Key{}, api.ErrFull
	}
	k := num(int(m.next.Int64()))
	if why := m.set(k, v); why != api.OK {
		return api.Key{}, why
	}
	return k, api.OK
}

func (m *model) del(k api.Key) bool {
	i := m.place(normByPattern(k))
	if i < 0 {
		return false
	}
	m.items = slices.Delete(m.items, i, i+1)
	return true
}

func (m *model) copied() *model {
	return &model{items: slices.Clone(m.items), next: m.next}
}

func (m *model) nextNumber() int {
	if !m.next.IsInt64() {
		return -1
	}
	return int(m.next.Int64())
}

// twin is a list and its model.
type twin struct {
	list  *List[string]
	model *model
}

func newTwin() twin {
	return twin{New[string](), &model{next: big.NewInt(0)}}
}

// chanceKey is a key of a few, so that it is met again.
func chanceKey(chance *rand.Rand) api.Key {
	n := chance.Intn(14) - 4
	switch chance.Intn(40) {
	case 0:
		n = math.MaxInt - chance.Intn(3)
	case 1:
		n = math.MinInt + chance.Intn(3)
	}
	switch chance.Intn(4) {
	case 0:
		return api.Key{IsText: true, Int: chance.Intn(2), Text: strconv.Itoa(n)}
	case 1:
		return word([]string{"", "a", "b", "05", "-0", "+1", " 1", "9223372036854775808"}[chance.Intn(8)])
	}
	return api.Key{Int: n, Text: []string{"", "a"}[chance.Intn(2)]}
}

// turn turns a list and its model in one way, and holds what was answered.
func (w twin) turn(t *testing.T, chance *rand.Rand) {
	t.Helper()
	v := strconv.Itoa(chance.Intn(1000))
	k := chanceKey(chance)
	switch chance.Intn(5) {
	case 0, 1:
		if got, want := w.list.Set(k, v), w.model.set(k, v); got != want {
			t.Fatalf("Set(%#v) = %v, not %v", k, got, want)
		}
	case 2:
		was := pairs(w.list)
		got, why := w.list.Append(v)
		want, wantWhy := w.model.append(v)
		if got != want || why != wantWhy {
			t.Fatalf("Append = %v, %v, not %v, %v", got, why, want, wantWhy)
		}
		if why == api.OK && slices.ContainsFunc(was, func(one pair) bool { return one.key == got }) {
			t.Fatalf("Append tells %v, which was there", got)
		}
	case 3, 4:
		if got, want := w.list.Del(k), w.model.del(k); got != want {
			t.Fatalf("Del(%#v) = %v, not %v", k, got, want)
		}
	}
}

func (w twin) check(t *testing.T) {
	t.Helper()
	check(t, w.list, w.model.nextNumber(), w.model.items...)
}

// over goes over a list, turns it and its model meanwhile, and holds what was seen.
func (w twin) over(t *testing.T, chance *rand.Rand) {
	t.Helper()
	was := slices.Clone(w.model.items)
	stop := chance.Intn(12)
	var seen []pair
	for k, v := range w.list.All() {
		seen = append(seen, pair{k, v})
		if len(seen) > stop {
			break
		}
		if chance.Intn(2) == 0 {
			w.turn(t, chance)
			w.check(t)
		}
	}
	if want := was[:min(len(was), stop+1)]; !slices.Equal(seen, want) {
		t.Fatalf("gone over: %v, not %v", seen, want)
	}
}

// TestP7_1_Chance: lists, copies of them and goings over by chance against the model.
func TestP7_1_Chance(t *testing.T) {
	chance := rand.New(rand.NewSource(7))
	for range 400 {
		twins := []twin{newTwin(), newTwin(), newTwin()}
		for range 120 {
			at := chance.Intn(len(twins))
			switch chance.Intn(10) {
			case 0:
				one := twins[chance.Intn(len(twins))]
				twins[at] = twin{one.list.Copy(), one.model.copied()}
			case 1:
				twins[at].over(t, chance)
			default:
				twins[at].turn(t, chance)
			}
			for _, one := range twins {
				one.check(t)
			}
		}
	}
}

// TestP7_6_Append: what Append tells is above all numbers that ever were, also such as are gone.
func TestP7_6_Append(t *testing.T) {
	chance := rand.New(rand.NewSource(76))
	for range 300 {
		l := New[string]()
		highest := math.MinInt
		for range 60 {
			switch chance.Intn(4) {
			case 0:
				n := chance.Intn(200) - 60
				l.Set(num(n), "a")
				highest = max(highest, n)
			case 1:
				k, why := l.Append("b")
				if why != api.OK || k.IsText || k.Int <= highest {
					t.Fatalf("Append = %v, %v, and %d was there", k, why, highest)
				}
				highest = k.Int
			case 2:
				if k, _, ok := l.At(chance.Intn(l.Len() + 1)); ok {
					l.Del(k)
				}
			case 3:
				l = l.Copy()
			}
		}
	}
}

// TestP7_7_Order: items that are not touched keep their order among one another.
func TestP7_7_Order(t *testing.T) {
	chance := rand.New(rand.NewSource(77))
	for range 300 {
		l := New[string]()
		var still []pair
		for i := range 40 {
			one := pair{num(chance.Intn(1000)), strconv.Itoa(i)}
			if _, ok := l.Get(one.key); !ok {
				set(t, l, one.key, one.v)
				still = append(still, one)
			}
		}
		for range 60 {
			k := num(chance.Intn(1000))
			still = slices.DeleteFunc(still, func(one pair) bool { return one.key == k })
			if chance.Intn(2) == 0 {
				l.Del(k)
			} else {
				l.Set(k, "touched")
			}
		}
		got := slices.DeleteFunc(pairs(l), func(one pair) bool { return one.v == "touched" })
		if !slices.Equal(got, still) {
			t.Fatalf("not touched: %v, not %v", got, still)
		}
	}
}
