package raw

import (
	"reflect"
	"strings"
	"testing"

	"ostler/api"
)

func checkText(t *testing.T, q api.Req, want string) {
	t.Helper()
	if got, why := Text(q); got != want || why != api.OK {
		t.Errorf("Text(%+v) = %.300q, %v, not %.300q", q, got, why, want)
		return
	}
	checkParse(t, want, q)
}

func checkNoText(t *testing.T, q api.Req) {
	t.Helper()
	if got, why := Text(q); got != "" || why != api.ErrArg {
		t.Errorf("Text(%+v) = %.300q, %v", q, got, why)
	}
}

// TestP10_2_Text: requests as bytes, and back.
func TestP10_2_Text(t *testing.T) {
	heads := func(all ...api.Pair) api.Req { return api.Req{Method: "GET", Path: "/", Heads: all} }
	checkText(t, api.Req{Method: "GET", Path: "/"}, "GET / HTTP/1.1\r\n\r\n")
	checkText(t, api.Req{Method: "GET", Path: "/", Heads: []api.Pair{}}, "GET / HTTP/1.1\r\n\r\n")
	checkText(t, api.Req{Method: "PUT", Path: "/a/b", Query: "c=d&e", Body: "x\r\ny"}, "PUT /a/b?c=d&e HTTP/1.1\r\n\r\nx\r\ny")
	checkText(t, api.Req{Method: "PUT", Path: "/a", Query: "?"}, "PUT /a?? HTTP/1.1\r\n\r\n")
	checkText(t, heads(pair("a", "")), "GET / HTTP/1.1\r\na: \r\n\r\n")
	checkText(t, heads(pair("a", "b"), pair("A", "b \t c"), pair("a", ":")), "GET / HTTP/1.1\r\na: b\r\nA: b \t c\r\na: :\r\n\r\n")
	checkText(t, heads(pair("Content-Length", "0")), "GET / HTTP/1.1\r\nContent-Length: 0\r\n\r\n")
	checkText(t, api.Req{Method: "A", Path: "/", Heads: []api.Pair{pair("content-length", "2"), pair("Content-Length", "x")}, Body: "\x00\xff"}, "A / HTTP/1.1\r\ncontent-length: 2\r\nContent-Length: x\r\n\r\n\x00\xff")
	full := make([]api.Pair, 64)
	for i := range full {
		full[i] = pair("n", "v")
	}
	checkText(t, heads(full...), "GET / HTTP/1.1\r\n"+strings.Repeat("n: v\r\n", 64)+"\r\n")
	checkNoText(t, heads(append(full, pair("n", "v"))...))
	body := strings.Repeat("b", api.MaxText-len("GET / HTTP/1.1\r\n\r\n"))
	checkText(t, api.Req{Method: "GET", Path: "/", Body: body}, "GET / HTTP/1.1\r\n\r\n"+body)
	checkNoText(t, api.Req{Method: "GET", Path: "/", Body: body + "b"})
}

// TestP10_2_NoText: requests that would not come back.
func TestP10_2_NoText(t *testing.T) {
	for _, q := range []api.Req{
		{}, {Method: "GET"}, {Path: "/"}, {Method: "get", Path: "/"}, {Method: "GET ", Path: "/"}, {Method: strings.Repeat("G", 17), Path: "/"}, {Method: "G1", Path: "/"},
		{Method: "GET /a HTTP/1.1\r\n\r\nPUT", Path: "/"},
		{Method: "GET", Path: "a"}, {Method: "GET", Path: " /"}, {Method: "GET", Path: "/ "}, {Method: "GET", Path: "/\x7f"}, {Method: "GET", Path: "/\x80"}, {Method: "GET", Path: "/\n"}, {Method: "GET", Path: "/a b"},
		{Method: "GET", Path: "?", Query: "a"}, {Method: "GET", Path: "", Query: "/a"},
		{Method: "GET", Path: "/?"}, {Method: "GET", Path: "/a?b"}, {Method: "GET", Path: "/a?b", Query: "c"}, {Method: "GET", Path: "/?", Query: "a"},
		{Method: "GET", Path: "/", Query: "a b"}, {Method: "GET", Path: "/", Query: "\xff"}, {Method: "GET", Path: "/", Query: "\r\n"},
		{Method: "GET", Path: "/ HTTP/1.1\r\n\r\n"}, {Method: "GET", Path: "/ HTTP/1.1\r\nA: b\r\n\r\n", Body: "x"}, {Method: "GET", Path: "/", Query: "a HTTP/1.1\r\n\r\n"},
		{Method: "GET", Path: "/", Heads: []api.Pair{{}}}, {Method: "GET", Path: "/", Heads: []api.Pair{pair("", "b")}},
	} {
		checkNoText(t, q)
	}
	for _, head := range []api.Pair{
		pair("A_", "b"), pair("A ", "b"), pair(" A", "b"), pair("A:", "b"), pair("A: b\r\nC", "d"), pair("\r\n", ""), pair(strings.Repeat("a", 65), "b"), pair("\u00e4", "b"),
		pair("A", " b"), pair("A", "\tb"), pair("A", "b "), pair("A", "b\t"), pair("A", " "), pair("A", "\r\n"), pair("A", "b\r"), pair("A", "\nb"), pair("A", "b\x00"), pair("A", "\x7f"), pair("A", "b\r\nC: d"), pair("A", "b\r\n\r\nx"),
		pair("Content-Length", "1"), pair("Content-Length", ""), pair("content-length", "00"), pair("A", "b\r\n"),
	} {
		checkNoText(t, api.Req{Method: "GET", Path: "/", Heads: []api.Pair{head}})
		checkNoText(t, api.Req{Method: "GET", Path: "/", Heads: []api.Pair{pair("X", "y"), head}})
	}
	checkNoText(t, api.Req{Method: "GET", Path: "/", Heads: []api.Pair{pair("Content-Length", "2")}, Body: "b"})
	checkNoText(t, api.Req{Method: "GET", Path: "/", Heads: []api.Pair{pair("Content-Length", "2"), pair("Content-Length", "1")}, Body: "b"})
}

// TestP10_3_Head: the first head of a name, letters' cases aside.
func TestP10_3_Head(t *testing.T) {
	q := api.Req{Heads: []api.Pair{pair("A-b", "1"), pair("a-B", "2"), pair("C", ""), pair("c", "3"), pair("k_@[`{", "4"), pair("\u017f\xe9", "5"), pair("", "6"), pair("Ab", "7"), pair("\u00c9", "8")}}
	for name, want := range map[string]string{"A-b": "1", "a-b": "1", "A-B": "1", "c": "", "C": "", "k_@[`{": "4", "K_@[`{": "4", "\u017f\xe9": "5", "": "6", "aB": "7", "\u00c9": "8"} {
		if got, ok := Head(q, name); got != want || !ok {
			t.Errorf("Head(%q) = %q, %v, not %q", name, got, ok, want)
		}
	}
	for _, name := range []string{"A", "A-b ", "A_b", "A-bc", "d", "k_`{@[", "K_`[@{", "k_@{@{", "s\xe9", "S\xe9", "\u212a_@[`{", "\u017f\xc9", "\u00e9", "-", " "} {
		if got, ok := Head(q, name); got != "" || ok {
			t.Errorf("Head(%q) = %q, %v", name, got, ok)
		}
	}
	if got, ok := Head(api.Req{}, ""); got != "" || ok {
		t.Errorf("a request without heads has %q", got)
	}
	for one := range rune(128) {
		q := api.Req{Heads: []api.Pair{pair(string(one), "v")}}
		for other := range rune(128) {
			_, ok := Head(q, string(other))
			if want := strings.EqualFold(string(one), string(other)); ok != want {
				t.Errorf("%q and %q: %v", one, other, ok)
			}
		}
	}
}

// TestR4_Heads: heads that are answered are the caller's, and those that are handed in are left as they are.
func TestR4_Heads(t *testing.T) {
	const s = "GET / HTTP/1.1\r\nA: b\r\nC: d\r\n\r\n"
	one, _ := Parse(s)
	one.Heads[0] = pair("blot", "blot")
	if other, _ := Parse(s); other.Heads[0] != pair("A", "b") {
		t.Error("an answer is shared")
	}
	q := api.Req{Method: "GET", Path: "/", Heads: []api.Pair{pair("Cookie", "a=b;c=d"), pair("x-y", "z")}}
	was := append([]api.Pair{}, q.Heads...)
	Text(q)
	Head(q, "x-y")
	Lists(q)
	if !reflect.DeepEqual(q.Heads, was) {
		t.Errorf("heads are written into: %v", q.Heads)
	}
}
