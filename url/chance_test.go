package url

import (
	"math"
	"math/rand"
	"reflect"
	"regexp"
	"strconv"
	"strings"
	"testing"

	"ostler/api"
	"ostler/deep"
	"ostler/list"
)

// namePattern is the chapter's name once more: the head, and the steps as far as they stand one behind the other.
var namePattern = regexp.MustCompile(`(?s)^([^\[]+)((?:\[[^\]]*\])*)`)

var stepPattern = regexp.MustCompile(`(?s)\[([^\]]*)\]`)

// pathAgain is a name's path, told by patterns: the steps as texts, the empty one for the next number.
func pathAgain(name string) []string {
	m := namePattern.FindStringSubmatch(name)
	if m == nil {
		return nil
	}
	path := []string{strings.NewReplacer(" ", "_", ".", "_").Replace(m[1])}
	for _, step := range stepPattern.FindAllStringSubmatch(m[2], -1) {
		path = append(path, step[1])
	}
	return path
}

// putAgain is a list with a text put under a path, made anew from the innermost list on; false, if a number is missing.
func putAgain(v api.Value, path []string, s string) (api.Value, bool) {
	if len(path) == 0 {
		return text(s), true
	}
	if v.Kind != api.List {
		v = row()
	}
	v = clone(v)
	k := list.Norm(word(path[0]))
	if path[0] == "" {
		if v.Int == -1 {
			return v, false
		}
		k = num(v.Int)
	}
	at := len(v.Items)
	for i, item := range v.Items {
		if item.Key == k {
			at = i
		}
	}
	if at == len(v.Items) {
		v.Items = append(v.Items, under(k, null()))
	}
	if !k.IsText && v.Int >= 0 && k.Int >= v.Int {
		v.Int = k.Int + 1
		if k.Int == math.MaxInt {
			v.Int = -1
		}
	}
	one, ok := putAgain(v.Items[at].V, path[1:], s)
	v.Items[at].V = one
	return v, ok
}

// modelPut is Put once more.
func modelPut(v api.Value, name, s string) api.Value {
	path := pathAgain(name)
	if len(path) == 0 || len(path) > api.MaxDeep {
		return v
	}
	if got, ok := putAgain(v, path, s); ok && deep.Count(got) <= api.MaxItems {
		return got
	}
	return v
}

// modelQuery is Query once more.
func modelQuery(s string) api.Value {
	v, taken := row(), 0
	for _, piece := range strings.Split(s, "&") {
		if piece == "" || taken == api.MaxPairs {
			continue
		}
		taken++
		halves := append(strings.SplitN(piece, "=", 2), "")
		v = modelPut(v, decodeAgain(halves[0]), decodeAgain(halves[1]))
	}
	return v
}

var codePattern = regexp.MustCompile(`%[0-9A-Fa-f]{2}|\+`)

// decodeAgain is Dec by a pattern.
func decodeAgain(s string) string {
	return codePattern.ReplaceAllStringFunc(s, func(code string) string {
		if code == "+" {
			return " "
		}
		n, _ := strconv.ParseUint(code[1:], 16, 8)
		return string([]byte{byte(n)})
	})
}

// scraps are what names and queries are made of, those that matter most often.
func scraps() []string {
	return []string{"a", "b", "a[", "]", "[]", "[a]", "[b]", "[", "=", "&", "a[]=", "&a=", "&b[a]=", "5", "[5]", "[9223372036854775807]", "[-1]", "9223372036854775807", "0", " ", "+", ".", "%", "%5", "%5B", "%5d", "%20", "%2e", "%26", "%3D", "\xff", "_"}
}

func chanceText(chance *rand.Rand, most int) string {
	var s strings.Builder
	all := scraps()
	for range chance.Intn(most + 1) {
		s.WriteString(all[chance.Intn(len(all))])
	}
	return s.String()
}

// TestP9_3_Chance: queries by chance against the model; what a query says may be.
func TestP9_3_Chance(t *testing.T) {
	chance := rand.New(rand.NewSource(9))
	for range 60000 {
		s := chanceText(chance, 24)
		if got := Dec(s); got != decodeAgain(s) {
			t.Fatalf("Dec(%q) = %q", s, got)
		}
		got, want := Query(s), modelQuery(s)
		if !reflect.DeepEqual(clone(got), clone(want)) {
			t.Fatalf("Query(%q) = %s, not %s", s, brief(got), brief(want))
		}
		if !deep.Right(got) {
			t.Fatalf("Query(%q) may not be", s)
		}
	}
}

// TestP9_2_Chance: texts put by chance, one behind the other, into one list, with room and at its end.
func TestP9_2_Chance(t *testing.T) {
	chance := rand.New(rand.NewSource(92))
	for round := range 240 {
		v := row()
		if round%4 == 0 {
			v = listOf(0, under(word("c"), nulls(api.MaxItems-1-chance.Intn(20))))
		}
		for range 30 {
			name := chanceText(chance, 6)
			if chance.Intn(30) == 0 {
				name = "c[" + strconv.Itoa(chance.Intn(9)) + "]"
			}
			want := modelPut(v, name, "x")
			got, why := Put(v, name, "x")
			if why != api.OK || !reflect.DeepEqual(clone(got), clone(want)) {
				t.Fatalf("Put(%s, %q) = %s, %v, not %s", brief(v), name, brief(got), why, brief(want))
			}
			v = got
		}
	}
}

// TestP9_3_Filled: queries that go up to the most pairs and items, against the model.
func TestP9_3_Filled(t *testing.T) {
	chance := rand.New(rand.NewSource(93))
	for range 12 {
		var s strings.Builder
		keys := 2 + chance.Intn(200)
		for range api.MaxPairs + 20 {
			s.WriteString("&k" + strconv.Itoa(chance.Intn(keys)))
			for range chance.Intn(8) {
				s.WriteString([]string{"[]", "[a]", "[b]", "[" + strconv.Itoa(chance.Intn(keys)) + "]"}[chance.Intn(4)])
			}
			s.WriteString("=x")
		}
		got, want := Query(s.String()), modelQuery(s.String())
		if !reflect.DeepEqual(clone(got), clone(want)) {
			t.Fatalf("Query(%q) is not what the model says", s.String())
		}
	}
}

// chanceKey is a key that comes back from a name.
func chanceKey(chance *rand.Rand, outer bool) api.Key {
	if chance.Intn(3) == 0 {
		return num([]int{0, 1, 2, 7, -1, math.MaxInt, math.MinInt}[chance.Intn(7)])
	}
	letters := "aB-_~%+=&\xff05]"
	if !outer {
		letters = "aB-_~%+=&\xff05 .["
	}
	var s []byte
	for range 1 + chance.Intn(3) {
		s = append(s, letters[chance.Intn(len(letters))])
	}
	return list.Norm(word(string(s)))
}

// chanceTexts is a list of texts, and of such lists, which has an item.
func chanceTexts(chance *rand.Rand, lists int, outer bool) api.Value {
	var items []api.Item
	for range 1 + chance.Intn(4) {
		v := text(chanceText(chance, 3))
		if lists > 1 && chance.Intn(2) == 0 {
			v = chanceTexts(chance, lists-1, false)
		}
		items = append(items, under(chanceKey(chance, outer), v))
	}
	v, _ := deep.Make(items...)
	return v
}

func checkBack(t *testing.T, v api.Value) {
	t.Helper()
	s, why := Build(v)
	if got := Query(s); why != api.OK || !deep.Same(got, v) {
		t.Fatalf("Query(%.300q) = %s, not %s", s, brief(got), brief(v))
	}
}

// TestP9_6_ThereAndBack: lists of texts come back from their query.
func TestP9_6_ThereAndBack(t *testing.T) {
	chance := rand.New(rand.NewSource(96))
	for range 20000 {
		checkBack(t, chanceTexts(chance, 5, true))
	}
	checkBack(t, row())
	checkBack(t, texts(make([]string, api.MaxPairs)...))
	checkBack(t, within(api.MaxDeep-1, "k", texts("a", "b")))
	checkBack(t, row(texts(make([]string, api.MaxPairs/2)...), texts(make([]string, api.MaxPairs/2)...)))
	var far []api.Value
	for i := range api.MaxItems / (api.MaxDeep - 1) {
		far = append(far, within(api.MaxDeep-2, strconv.Itoa(i)+"k", text("x")))
	}
	checkBack(t, row(far...))
}
