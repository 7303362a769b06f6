package url

import (
	"math/rand"
	"strings"
	"testing"
)

// TestP9_1_EncBytes: each byte alone, and between others, as the chapter says.
func TestP9_1_EncBytes(t *testing.T) {
	const stands = "ABCDEFGHIJKLMNOPQRSTUVWXYZabcdefghijklmnopqrstuvwxyz0123456789-_."
	const digits = "0123456789ABCDEF"
	for one := range 256 {
		s := string([]byte{byte(one)})
		want := "%" + digits[one/16:one/16+1] + digits[one%16:one%16+1]
		switch {
		case strings.Contains(stands, s):
			want = s
		case s == " ":
			want = "+"
		}
		for _, around := range [][2]string{{"", ""}, {"a", "b"}, {" ", "%"}, {"%", "+"}} {
			if got := Enc(around[0] + s + around[1]); got != Enc(around[0])+want+Enc(around[1]) {
				t.Errorf("Enc(%q) = %q", around[0]+s+around[1], got)
			}
		}
		if got := Dec(want); got != s {
			t.Errorf("Dec(%q) = %q", want, got)
		}
		if got := Dec(strings.ToLower(want)); want[0] == '%' && got != s {
			t.Errorf("Dec(%q) = %q", strings.ToLower(want), got)
		}
		if got := Dec(s); got != s && s != "+" {
			t.Errorf("Dec(%q) = %q", s, got)
		}
	}
}

// TestP9_1_Enc: texts encoded.
func TestP9_1_Enc(t *testing.T) {
	for s, want := range map[string]string{
		"":                   "",
		"abc XYZ-09_.":       "abc+XYZ-09_.",
		"a=b&c":              "a%3Db%26c",
		"~!*'()":             "%7E%21%2A%27%28%29",
		"a[k]":               "a%5Bk%5D",
		"+%":                 "%2B%25",
		"  ":                 "++",
		"\t\n\r":             "%09%0A%0D",
		"\x00\x7f\x80":       "%00%7F%80",
		"\u00e9\u20ac":       "%C3%A9%E2%82%AC",
		"/?#:@;,":            "%2F%3F%23%3A%40%3B%2C",
		"\u00b2\uff21\u0660": "%C2%B2%EF%BC%A1%D9%A0",
	} {
		if got := Enc(s); got != want {
			t.Errorf("Enc(%q) = %q, not %q", s, got, want)
		}
	}
}

// TestP9_1_Dec: texts decoded; what is no code stands for itself.
func TestP9_1_Dec(t *testing.T) {
	for s, want := range map[string]string{
		"":              "",
		"abc":           "abc",
		"a+b++":         "a b  ",
		"%41%4a%4A":     "AJJ",
		"%2b+%2B":       "+ +",
		"%20":           " ",
		"%25":           "%",
		"%2541":         "%41",
		"%25%34%31":     "%41",
		"%":             "%",
		"%%":            "%%",
		"%4":            "%4",
		"a%4":           "a%4",
		"%%41":          "%A",
		"%4%41":         "%4A",
		"%+1":           "% 1",
		"%1+":           "%1 ",
		"%g0%0g":        "%g0%0g",
		"%G0%0G":        "%G0%0G",
		"%@0%0@%`0%0`":  "%@0%0@%`0%0`",
		"%/0%0/%:0%0:":  "%/0%0/%:0%0:",
		"%0x41":         "%0x41",
		"% 41%4 1":      "% 41%4 1",
		"%-1%+1":        "%-1% 1",
		"%00%ff%FF%fF":  "\x00\xff\xff\xff",
		"%u0041":        "%u0041",
		"a=b&c[d]":      "a=b&c[d]",
		"\xff\x00\xc3":  "\xff\x00\xc3",
		"%\x10\x11":     "%\x10\x11",
		"%\x21\x26":     "%\x21\x26",
		"%\u0664\u0661": "%\u0664\u0661",
	} {
		if got := Dec(s); got != want {
			t.Errorf("Dec(%q) = %q, not %q", s, got, want)
		}
	}
}

// TestP9_5_ThereAndBack: what was encoded is decoded to the text, and has no byte but those that may stand there.
func TestP9_5_ThereAndBack(t *testing.T) {
	chance := rand.New(rand.NewSource(95))
	for range 20000 {
		raw := make([]byte, chance.Intn(12))
		for i := range raw {
			raw[i] = byte(chance.Intn(256))
			if chance.Intn(2) == 0 {
				raw[i] = "%+ 4aF[]&=._-~"[chance.Intn(14)]
			}
		}
		s := string(raw)
		code := Enc(s)
		if got := Dec(code); got != s {
			t.Fatalf("Dec(%q) = %q, not %q", code, got, s)
		}
		if strings.ContainsAny(code, " &=[]~\x00\xff") {
			t.Fatalf("Enc(%q) = %q", s, code)
		}
	}
	long := strings.Repeat("a b\xff%", 1<<18)
	if Dec(Enc(long)) != long {
		t.Error("a long text does not come back")
	}
}
