package deep

import (
	"math"
	"strconv"
	"strings"
	"testing"

	"ostler/api"
)

func checkShow(t *testing.T, v api.Value, want string) {
	t.Helper()
	if got, why := Show(v); got != want || why != api.OK {
		t.Errorf("Show(%s) = %q, %v, not %q", brief(v), got, why, want)
	}
}

// TestP8_4_Plain: what has no items.
func TestP8_4_Plain(t *testing.T) {
	checkShow(t, null(), "NULL")
	checkShow(t, truth(1), "true")
	checkShow(t, truth(0), "false")
	checkShow(t, number(0), "0")
	checkShow(t, number(-12), "-12")
	checkShow(t, number(math.MaxInt), "9223372036854775807")
	checkShow(t, number(math.MinInt), "-9223372036854775808")
	checkShow(t, object(1), "object(1)")
	checkShow(t, object(math.MaxInt), "object(9223372036854775807)")
	checkShow(t, text(""), "''")
	checkShow(t, text("a"), "'a'")
	checkShow(t, text("a'b"), `'a\'b'`)
	checkShow(t, text(`a\b`), `'a\\b'`)
	checkShow(t, text(`\'`), `'\\\''`)
	checkShow(t, text("\"$\n\t\x00\xff\u00e9"), "'\"$\n\t\x00\xff\u00e9'")
	for b := range 256 {
		s := string([]byte{byte(b)})
		if s != "'" && s != `\` {
			checkShow(t, text(s), "'"+s+"'")
		}
	}
	checkShow(t, text(strings.Repeat("'", api.MaxText)), "'"+strings.Repeat(`\'`, api.MaxText)+"'")
}

// TestP8_4_Lists: items on lines of their own, two blanks for each list.
func TestP8_4_Lists(t *testing.T) {
	checkShow(t, row(), "array (\n)")
	checkShow(t, listOf(2, under(num(0), text("a")), under(word("k"), listOf(6, under(num(5), truth(1))))),
		"array (\n  0 => 'a',\n  'k' => array (\n    5 => true,\n  ),\n)")
	checkShow(t, row(row(row())), "array (\n  0 => array (\n    0 => array (\n    ),\n  ),\n)")
	checkShow(t, row(null(), object(7), number(-1), truth(0)), "array (\n  0 => NULL,\n  1 => object(7),\n  2 => -1,\n  3 => false,\n)")
	checkShow(t, listOf(-1, under(num(math.MinInt), null()), under(num(math.MaxInt), null())), "array (\n  -9223372036854775808 => NULL,\n  9223372036854775807 => NULL,\n)")
	checkShow(t, listOf(0, under(word(""), null()), under(word(`a'\`), null()), under(word("x\ny"), row(text("1\n2")))),
		"array (\n  '' => NULL,\n  'a\\'\\\\' => NULL,\n  'x\ny' => array (\n    0 => '1\n2',\n  ),\n)")
}

// showAgain is a value's text told once more: the lines within a list, each moved by two blanks, put together from within.
func showAgain(v api.Value) []string {
	quoted := func(s string) string {
		return "'" + strings.NewReplacer(`\`, `\\`, `'`, `\'`).Replace(s) + "'"
	}
	switch v.Kind {
	case api.Null:
		return []string{"NULL"}
	case api.Bool:
		return []string{strconv.FormatBool(v.Int == 1)}
	case api.Int:
		return []string{strconv.Itoa(v.Int)}
	case api.Text:
		return []string{quoted(v.Text)}
	case api.Obj:
		return []string{"object(" + strconv.Itoa(v.Int) + ")"}
	}
	lines := []string{"array ("}
	for _, item := range v.Items {
		key := strconv.Itoa(item.Key.Int)
		if item.Key.IsText {
			key = quoted(item.Key.Text)
		}
		value := showAgain(item.V)
		value[0] = key + " => " + value[0]
		value[len(value)-1] += ","
		for _, line := range value {
			lines = append(lines, "  "+line)
		}
	}
	return append(lines, ")")
}

// TestP8_4_Values: all values that may be against the text told once more.
func TestP8_4_Values(t *testing.T) {
	for _, v := range rightValues() {
		checkShow(t, v, strings.Join(showAgain(v), "\n"))
		if Right(row(v)) {
			checkShow(t, row(v, v), strings.Join(showAgain(row(v, v)), "\n"))
		}
	}
}
