package deep

import (
	"math"
	"math/rand"
	"strconv"
	"strings"
	"testing"

	"ostler/api"
)

// chanceKey is a key of a few, in its one form.
func chanceKey(chance *rand.Rand) api.Key {
	if chance.Intn(2) == 0 {
		return num([]int{0, 1, 2, -1, math.MaxInt, math.MinInt}[chance.Intn(6)])
	}
	return word([]string{"", "a", "b", "00", "'"}[chance.Intn(5)])
}

// chanceValue is a value that may be, of a few, so that two are often the same.
func chanceValue(chance *rand.Rand, deep int) api.Value {
	switch chance.Intn(9) {
	case 0:
		return null()
	case 1:
		return truth(chance.Intn(2))
	case 2:
		return number(chance.Intn(3))
	case 3:
		return text([]string{"", "0", "1", "01", "a", "'", `\`, "a\n"}[chance.Intn(8)])
	case 4:
		return object(1 + chance.Intn(2))
	}
	if deep == 0 {
		return listOf(chance.Intn(4) - 1)
	}
	return chanceList(chance, deep)
}

func chanceList(chance *rand.Rand, deep int) api.Value {
	v := listOf(0)
	there := map[api.Key]int{}
	for range chance.Intn(4) {
		k := chanceKey(chance)
		if _, ok := there[k]; ok {
			continue
		}
		there[k] = 1
		v.Items = append(v.Items, under(k, chanceValue(chance, deep-1)))
		if !k.IsText {
			v.Int = max(v.Int, k.Int)
		}
	}
	if v.Int++; v.Int < 0 || chance.Intn(4) == 0 {
		v.Int = -1
	}
	return v
}

// mixed is a value with the items of its lists in another order, here and there.
func mixed(chance *rand.Rand, v api.Value) api.Value {
	v = clone(v)
	if chance.Intn(2) == 0 {
		chance.Shuffle(len(v.Items), func(i, j int) { v.Items[i], v.Items[j] = v.Items[j], v.Items[i] })
	}
	for i := range v.Items {
		v.Items[i].V = mixed(chance, v.Items[i].V)
	}
	if len(v.Items) == 0 && chance.Intn(20) == 0 {
		return chanceValue(chance, 1)
	}
	return v
}

// TestP8_2_Chance: values by chance, and such as are nearly the same, against what is told once more.
func TestP8_2_Chance(t *testing.T) {
	chance := rand.New(rand.NewSource(8))
	for range 60000 {
		a := chanceValue(chance, 4)
		for _, b := range []api.Value{chanceValue(chance, 4), mixed(chance, a), clone(a)} {
			checkPair(t, a, b)
		}
		checkShow(t, a, strings.Join(showAgain(a), "\n"))
		if !Same(a, clone(a)) {
			t.Fatalf("%s is not the same as itself", brief(a))
		}
	}
}

// rightAgain tells once more whether a value may be: by its text of digits, and without maps.
func rightAgain(v api.Value, deep int) bool {
	if v.Kind == api.List {
		deep++
	}
	fields := map[int]string{api.Null: "", api.Bool: "i", api.Int: "i", api.Text: "t", api.List: "il", api.Obj: "i"}
	has, ok := fields[v.Kind]
	if !ok || deep > api.MaxDeep {
		return false
	}
	if v.Int != 0 && !strings.Contains(has, "i") || v.Text != "" && !strings.Contains(has, "t") || len(v.Items) != 0 && !strings.Contains(has, "l") {
		return false
	}
	if v.Kind == api.Bool && v.Int&^1 != 0 || v.Kind == api.Obj && v.Int <= 0 || v.Kind == api.List && v.Int < -1 {
		return false
	}
	for i, item := range v.Items {
		n, err := strconv.Atoi(item.Key.Text)
		isNumber := err == nil && strconv.Itoa(n) == item.Key.Text
		if item.Key.IsText && (item.Key.Int != 0 || isNumber) || !item.Key.IsText && item.Key.Text != "" {
			return false
		}
		if !item.Key.IsText && v.Int != -1 && v.Int <= item.Key.Int {
			return false
		}
		for _, other := range v.Items[:i] {
			if other.Key == item.Key {
				return false
			}
		}
		if !rightAgain(item.V, deep) {
			return false
		}
	}
	return true
}

// spoilt is a value with one thing of it turned, which may still be.
func spoilt(chance *rand.Rand, v api.Value) api.Value {
	v = clone(v)
	if len(v.Items) > 0 && chance.Intn(4) > 0 {
		at := chance.Intn(len(v.Items))
		if chance.Intn(3) > 0 {
			v.Items[at].V = spoilt(chance, v.Items[at].V)
			return v
		}
		k := &v.Items[at].Key
		switch chance.Intn(4) {
		case 0:
			*k = v.Items[chance.Intn(len(v.Items))].Key
		case 1:
			k.IsText = !k.IsText
		case 2:
			k.Int += chance.Intn(3) - 1
		case 3:
			k.Text += []string{"", "0", "1"}[chance.Intn(3)]
		}
		return v
	}
	switch chance.Intn(4) {
	case 0:
		v.Int += chance.Intn(5) - 2
	case 1:
		v.Text += "a"
	case 2:
		v.Kind = chance.Intn(8) - 1
	case 3:
		v.Items = append(v.Items, under(chanceKey(chance), null()))
	}
	return v
}

// TestP8_1_Chance: values that are turned by chance, and whether they may be.
func TestP8_1_Chance(t *testing.T) {
	chance := rand.New(rand.NewSource(81))
	rights := 0
	for range 100000 {
		v := chanceValue(chance, 4)
		if !Right(v) || !rightAgain(v, 0) {
			t.Fatalf("Right(%s) is false", brief(v))
		}
		v = spoilt(chance, v)
		want := rightAgain(v, 0)
		if got := Right(v); got != want {
			t.Fatalf("Right(%s) = %v", brief(v), got)
		}
		if _, why := Show(v); (why == api.OK) != want {
			t.Fatalf("Show(%s): %v", brief(v), why)
		}
		if want {
			rights++
		}
	}
	if rights < 1000 || rights > 90000 {
		t.Errorf("%d values may be: too few or too many to tell", rights)
	}
}
