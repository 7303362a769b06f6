package raw

import (
	"reflect"
	"strconv"
	"strings"
	"testing"

	"ostler/api"
)

func pair(name, value string) api.Pair { return api.Pair{Name: name, Value: value} }

// repeated is many of something, each with its number in the place of #.
func repeated(n int, s string) string {
	var out strings.Builder
	for i := range n {
		out.WriteString(strings.ReplaceAll(s, "#", strconv.Itoa(i)))
	}
	return out.String()
}

func checkParse(t *testing.T, s string, want api.Req) {
	t.Helper()
	got, fault := Parse(s)
	if fault != (api.Fault{}) || !isSameReq(got, want) {
		t.Errorf("Parse(%.300q) = %+v, %+v, not %+v", s, got, fault, want)
	}
}

func isSameReq(a, b api.Req) bool {
	if len(a.Heads) == 0 && len(b.Heads) == 0 {
		a.Heads, b.Heads = nil, nil
	}
	return reflect.DeepEqual(a, b)
}

func checkFault(t *testing.T, s string, why api.Errno, at int) {
	t.Helper()
	got, fault := Parse(s)
	if fault != (api.Fault{Why: why, At: at}) || !reflect.DeepEqual(got, api.Req{}) {
		t.Errorf("Parse(%.300q) = %+v, %+v, not %v at %d", s, got, fault, why, at)
	}
}

// TestP10_1_Parts: what the parts of a request are.
func TestP10_1_Parts(t *testing.T) {
	all := "!\"#$%&'()*+,-./0123456789:;<=>@ABCDEFGHIJKLMNOPQRSTUVWXYZ[\\]^_`abcdefghijklmnopqrstuvwxyz{|}~"
	for s, want := range map[string]api.Req{
		"G / HTTP/1.1\r\n\r\n":                {Method: "G", Path: "/"},
		"GET /a?b=1 HTTP/1.1\r\n\r\n":         {Method: "GET", Path: "/a", Query: "b=1"},
		"ABCDEFGHIJKLMNOP / HTTP/1.1\r\n\r\n": {Method: "ABCDEFGHIJKLMNOP", Path: "/"},
		"QRSTUVWXYZ / HTTP/1.1\r\n\r\n":       {Method: "QRSTUVWXYZ", Path: "/"},
		"GET /? HTTP/1.1\r\n\r\n":             {Method: "GET", Path: "/"},
		"GET /?? HTTP/1.1\r\n\r\n":            {Method: "GET", Path: "/", Query: "?"},
		"GET /a?b?c#d HTTP/1.1\r\n\r\n":       {Method: "GET", Path: "/a", Query: "b?c#d"},
		"GET //x/../y%20z HTTP/1.1\r\n\r\n":   {Method: "GET", Path: "//x/../y%20z"},
		"GET /" + all + "? HTTP/1.1\r\n\r\n":  {Method: "GET", Path: "/" + all},
		"GET /?" + all + " HTTP/1.1\r\n\r\n":  {Method: "GET", Path: "/", Query: all},
		"POST / HTTP/1.1\r\n\r\n\r\n":         {Method: "POST", Path: "/", Body: "\r\n"},
		"POST / HTTP/1.1\r\n\r\na\x00\xff\nb": {Method: "POST", Path: "/", Body: "a\x00\xff\nb"},
		"POST / HTTP/1.1\r\n\r\nA: b\r\n\r\n": {Method: "POST", Path: "/", Body: "A: b\r\n\r\n"},
	} {
		checkParse(t, s, want)
	}
}

// TestP10_1_Heads: what head lines are.
func TestP10_1_Heads(t *testing.T) {
	long := strings.Repeat("a", 64)
	for s, want := range map[string][]api.Pair{
		"":                         nil,
		"A:\r\n":                   {pair("A", "")},
		"A: \r\n":                  {pair("A", "")},
		"A: \t \r\n":               {pair("A", "")},
		"A:b\r\n":                  {pair("A", "b")},
		"A: b\r\n":                 {pair("A", "b")},
		"A:\t \tb\r\n":             {pair("A", "b")},
		"A: b \t \r\n":             {pair("A", "b")},
		"A: b \t c \r\n":           {pair("A", "b \t c")},
		"A::\r\n":                  {pair("A", ":")},
		"A: b: c\r\n":              {pair("A", "b: c")},
		"A: \x80\xff~!\r\n":        {pair("A", "\x80\xff~!")},
		"A: \u00a0b\u00a0\r\n":     {pair("A", "\u00a0b\u00a0")},
		"-:b\r\n0-Z9az: c\r\n":     {pair("-", "b"), pair("0-Z9az", "c")},
		long + ": b\r\n":           {pair(long, "b")},
		"b: 1\r\nA: 2\r\nb: 3\r\n": {pair("b", "1"), pair("A", "2"), pair("b", "3")},
		"a: 1\r\nA: 2\r\n":         {pair("a", "1"), pair("A", "2")},
		"HOST: x\r\nhost: y\r\n":   {pair("HOST", "x"), pair("host", "y")},
		repeated(3, "A#: b#\r\n"):  {pair("A0", "b0"), pair("A1", "b1"), pair("A2", "b2")},
	} {
		checkParse(t, "GET / HTTP/1.1\r\n"+s+"\r\n", api.Req{Method: "GET", Path: "/", Heads: want})
		checkParse(t, "GET / HTTP/1.1\r\n"+s+"\r\n\r\nA: b\r\n", api.Req{Method: "GET", Path: "/", Heads: want, Body: "\r\nA: b\r\n"})
	}
}

// TestP10_1_Bytes: which bytes may stand in each part.
func TestP10_1_Bytes(t *testing.T) {
	for one := range 256 {
		c := string([]byte{byte(one)})
		isCapital := one >= 'A' && one <= 'Z'
		isName := isCapital || one >= 'a' && one <= 'z' || one >= '0' && one <= '9' || one == '-'
		for _, part := range []struct {
			ahead, behind string
			may           bool
			want          api.Req
		}{
			{"", " / HTTP/1.1\r\n\r\n", isCapital, api.Req{Method: c, Path: "/"}},
			{"GE", " / HTTP/1.1\r\n\r\n", isCapital, api.Req{Method: "GE" + c, Path: "/"}},
			{"GET /a", " HTTP/1.1\r\n\r\n", one > 32 && one < 127 && c != "?", api.Req{Method: "GET", Path: "/a" + c}},
			{"GET /?a", " HTTP/1.1\r\n\r\n", one > 32 && one < 127, api.Req{Method: "GET", Path: "/", Query: "a" + c}},
			{"GET ", " HTTP/1.1\r\n\r\n", c == "/", api.Req{Method: "GET", Path: "/"}},
			{"GET / HTTP/1.1\r\n", ":x\r\n\r\n", isName, api.Req{Method: "GET", Path: "/", Heads: []api.Pair{pair(c, "x")}}},
			{"GET / HTTP/1.1\r\nA", ":x\r\n\r\n", isName, api.Req{Method: "GET", Path: "/", Heads: []api.Pair{pair("A"+c, "x")}}},
			{"GET / HTTP/1.1\r\nA:x", "x\r\n\r\n", one == 9 || one >= 32 && one != 127, api.Req{Method: "GET", Path: "/", Heads: []api.Pair{pair("A", "x"+c+"x")}}},
			{"GET / HTTP/1.1\r\nA:", "x\r\n\r\n", one > 32 && one != 127, api.Req{Method: "GET", Path: "/", Heads: []api.Pair{pair("A", c+"x")}}},
			{"GET / HTTP/1.1\r\nA:x", "\r\n\r\n", one > 32 && one != 127, api.Req{Method: "GET", Path: "/", Heads: []api.Pair{pair("A", "x"+c)}}},
			{"GET / HTTP/1.1\r\n\r\n", "", true, api.Req{Method: "GET", Path: "/", Body: c}},
		} {
			s := part.ahead + c + part.behind
			if part.may {
				checkParse(t, s, part.want)
				continue
			}
			if got, fault := Parse(s); fault.Why == api.OK && isSameReq(got, part.want) {
				t.Errorf("Parse(%q) takes the byte", s)
			}
		}
	}
}

// TestP10_1_Form: the first byte that cannot stand there.
func TestP10_1_Form(t *testing.T) {
	const line = "GET / HTTP/1.1\r\n"
	sixteen, many := strings.Repeat("M", 16), strings.Repeat("n", 64)
	for _, c := range []struct{ right, wrong string }{
		{"", " "}, {"", "g"}, {"", "/"}, {"", "\r\n\r\n"}, {"", "0"}, {"", "\xff"}, {"", "@"}, {"", "["},
		{"GET", "\t/"}, {"GET", "e"}, {"G", "1"}, {"GET", "\r\n\r\n"}, {"GET", "/"},
		{sixteen, "M / HTTP/1.1\r\n\r\n"}, {sixteen, "m"},
		{"GET ", "a"}, {"GET ", " / HTTP/1.1"}, {"GET ", "?"}, {"GET ", "*"}, {"GET ", "\r"},
		{"GET /", "\x7f"}, {"GET /", "\x80"}, {"GET /a", "\t"}, {"GET /a", "\r\n"}, {"GET /?a", "\x1f"}, {"GET /?", "\xc3\xa4"},
		{"GET / ", " HTTP/1.1"}, {"GET / ", "h"}, {"GET / ", "\r\n"}, {"GET / HTTP", " "}, {"GET / HTTP/", "2"}, {"GET / HTTP/1", ","}, {"GET / HTTP/1.", "0"},
		{"GET / HTTP/1.1", " \r\n"}, {"GET / HTTP/1.1", "\n"}, {"GET / HTTP/1.1", "1"}, {"GET / HTTP/1.1\r", "\r\n"}, {"GET / HTTP/1.1\r", "A"},
		{line, "\n"}, {line, ":"}, {line, " A: b"}, {line, "\tb"}, {line, "_"}, {line, "\x00"}, {line, "\xff"},
		{line + "\r", "\r"}, {line + "\r", "a"}, {line + "\r", "\x00"},
		{line + "A", " : b"}, {line + "A", "\r\n"}, {line + "A", "_"}, {line + "A", "@"}, {line + "A", "["}, {line + "A", "`"}, {line + "A", "{"}, {line + "A", "/"}, {line + "A", "\n"},
		{line + many, "n:"}, {line + many, "-"}, {line + many, " :"},
		{line + "A:", "\n"}, {line + "A: b", "\n"}, {line + "A: b", "\x00"}, {line + "A: b", "\x7f"}, {line + "A: b", "\x0b"}, {line + "A: b", "\x1f"}, {line + "A: ", "\x08"},
		{line + "A: b\r", "\r\n"}, {line + "A: b\r", " "}, {line + "A:\r", "b"}, {line + "A: b\r\n", " c: d"}, {line + "A: b\r\n\r", "c"}, {line + "A: b\r\nB: c\r\n", "\n"},
		{line + "A: b ", "\n"},
		{line + "Content-Length: 7\r\n\r", "a"},
	} {
		checkFault(t, c.right+c.wrong, api.ErrForm, len(c.right))
		checkFault(t, c.right+c.wrong[:1], api.ErrForm, len(c.right))
		checkFault(t, c.right, api.ErrOpen, len(c.right))
		checkFault(t, c.right+c.wrong[:1]+" / HTTP/1.1\r\n\r\n", api.ErrForm, len(c.right))
	}
}

// TestP10_1_Open: the end of what is cut off at each byte.
func TestP10_1_Open(t *testing.T) {
	for _, s := range []string{"GET /a?b=1 HTTP/1.1\r\n\r\n", "POST /a HTTP/1.1\r\nHost: x\r\nContent-Length:  0\r\nA:\r\n\r\n", "G / HTTP/1.1\r\n" + repeated(64, "A#: b \r\n") + "\r\n"} {
		for i := range len(s) {
			checkFault(t, s[:i], api.ErrOpen, i)
		}
		if _, fault := Parse(s); fault != (api.Fault{}) {
			t.Errorf("Parse(%q) has the fault %+v", s, fault)
		}
	}
}

// TestP10_1_Long: the most bytes, whatever they are.
func TestP10_1_Long(t *testing.T) {
	const ahead = "POST / HTTP/1.1\r\n\r\n"
	body := strings.Repeat("b", api.MaxText-len(ahead))
	checkParse(t, ahead+body, api.Req{Method: "POST", Path: "/", Body: body})
	checkFault(t, ahead+body+"b", api.ErrLong, 0)
	path := "/" + strings.Repeat("p", api.MaxText-len("G / HTTP/1.1\r\n\r\n"))
	checkParse(t, "G "+path+" HTTP/1.1\r\n\r\n", api.Req{Method: "G", Path: path})
	checkFault(t, "G "+path+"p HTTP/1.1\r\n\r\n", api.ErrLong, 0)
	for _, c := range []string{" ", "G", "\xff"} {
		checkFault(t, strings.Repeat(c, api.MaxText+1), api.ErrLong, 0)
	}
	checkFault(t, strings.Repeat(" ", api.MaxText), api.ErrForm, 0)
	checkFault(t, "G /"+strings.Repeat("p", api.MaxText-3), api.ErrOpen, api.MaxText)
}

// TestP10_1_Many: what stands behind the last head line that there may be.
func TestP10_1_Many(t *testing.T) {
	full := "GET / HTTP/1.1\r\n" + repeated(64, "A#: b#\r\n")
	var heads []api.Pair
	for i := range 64 {
		heads = append(heads, pair("A"+strconv.Itoa(i), "b"+strconv.Itoa(i)))
	}
	checkParse(t, full+"\r\n", api.Req{Method: "GET", Path: "/", Heads: heads})
	checkParse(t, full+"\r\nA: b\r\n", api.Req{Method: "GET", Path: "/", Heads: heads, Body: "A: b\r\n"})
	for one := range 256 {
		if one != 13 {
			checkFault(t, full+string([]byte{byte(one)}), api.ErrMany, len(full))
			checkFault(t, full+string([]byte{byte(one)})+": b\r\n\r\n", api.ErrMany, len(full))
		}
	}
	checkFault(t, full, api.ErrOpen, len(full))
	checkFault(t, full+"\r", api.ErrOpen, len(full)+1)
	checkFault(t, full+"\rA", api.ErrForm, len(full)+1)
	checkFault(t, full+full, api.ErrMany, len(full))
	short := "GET / HTTP/1.1\r\n" + repeated(63, "A#: b#\r\n")
	checkFault(t, short+"_", api.ErrForm, len(short))
	checkFault(t, short+"A_", api.ErrForm, len(short)+1)
	checkFault(t, strings.Replace(full, "b9", "\x7f", 1)+"A", api.ErrForm, strings.Index(full, "b9"))
	checkFault(t, "GET / HTTP/1.1\r\n"+repeated(64, "Content-Length: 9\r\n")+"A", api.ErrMany, len("GET / HTTP/1.1\r\n")+64*len("Content-Length: 9\r\n"))
}

// TestP10_1_Num: the length that a head tells.
func TestP10_1_Num(t *testing.T) {
	at := len("POST / HTTP/1.1\r\n")
	for _, name := range []string{"Content-Length", "content-length", "CONTENT-LENGTH", "cOnTeNt-LeNgTh"} {
		for _, c := range []struct {
			value, body string
			isRight     bool
		}{
			{"0", "", true}, {"1", "b", true}, {"3", "a\r\n", true}, {"10", "0123456789", true}, {"1000", strings.Repeat("b", 1000), true},
			{"", "", false}, {"", "b", false}, {"1", "", false}, {"0", "b", false}, {"00", "", false}, {"01", "b", false}, {"+1", "b", false}, {"-0", "", false}, {"-1", "b", false},
			{"1 0", "0123456789", false}, {"1.", "b", false}, {"1,1", "b", false}, {"0x1", "b", false}, {"1e0", "b", false}, {"a", "", false}, {"2", "b", false},
			{"18446744073709551616", "", false}, {"18446744073709551617", "b", false}, {"\u0660", "", false},
		} {
			for _, blanks := range [][2]string{{"", ""}, {" ", ""}, {" \t ", " "}} {
				start := at + len(name) + 1 + len(blanks[0])
				if c.value == "" {
					start += len(blanks[1])
				}
				s := "POST / HTTP/1.1\r\n" + name + ":" + blanks[0] + c.value + blanks[1] + "\r\n\r\n" + c.body
				if c.isRight {
					checkParse(t, s, api.Req{Method: "POST", Path: "/", Heads: []api.Pair{pair(name, c.value)}, Body: c.body})
				} else {
					checkFault(t, s, api.ErrNum, start)
				}
			}
		}
	}
	for _, s := range []string{"Content-Length: 1\r\nContent-Length: 9\r\n", "Content-Length: 1\r\ncontent-length: \r\n", "Content-Lengt: 9\r\nContent-Lengths: 9\r\nXContent-Length: 9\r\nContent_Length: 1\r\n"} {
		s = "POST / HTTP/1.1\r\n" + s + "\r\nb"
		_, fault := Parse(s)
		if isUnder := strings.Contains(s, "_"); fault.Why == api.OK == isUnder || fault.Why == api.ErrNum {
			t.Errorf("Parse(%q) has the fault %+v", s, fault)
		}
	}
	s := "POST / HTTP/1.1\r\nA: b\r\ncontent-Length: 2\r\nContent-Length: 1\r\nContent-Length: 3\r\n\r\nb"
	checkFault(t, s, api.ErrNum, strings.Index(s, "2"))
	checkFault(t, "POST / HTTP/1.1\r\nContent-Length: 5\r\n\r\na\x00", api.ErrNum, at+len("Content-Length: "))
	checkFault(t, "POST / HTTP/1.1\r\nContent-Length: x\r\nA_", api.ErrForm, at+len("Content-Length: x\r\nA"))
}

// TestExamples: the chapter's examples.
func TestExamples(t *testing.T) {
	checkParse(t, "GET /a?b=1 HTTP/1.1\r\nHost: x\r\n\r\n", api.Req{Method: "GET", Path: "/a", Query: "b=1", Heads: []api.Pair{pair("Host", "x")}})
	checkFault(t, "GET a", api.ErrForm, 4)
}
