package raw

import (
	"reflect"
	"strconv"
	"strings"
	"testing"

	"ostler/api"
	"ostler/deep"
	"ostler/url"
)

func text(s string) api.Value { return api.Value{Kind: api.Text, Text: s} }

func under(key string, v api.Value) api.Item {
	return api.Item{Key: api.Key{IsText: true, Text: key}, V: v}
}

// listOf is the list of some items under texts or numbers in their one form.
func listOf(items ...api.Item) api.Value {
	v, why := deep.Make(items...)
	if why != api.OK {
		panic(why)
	}
	return v
}

// named is the list of some texts under their names.
func named(namesAndTexts ...string) api.Value {
	var items []api.Item
	for i := 0; i < len(namesAndTexts); i += 2 {
		items = append(items, under(namesAndTexts[i], text(namesAndTexts[i+1])))
	}
	return listOf(items...)
}

// isSameList tells whether two values are the same to the last field, but that nil and no items are one.
func isSameList(a, b api.Value) bool {
	return reflect.DeepEqual(bare(a), bare(b))
}

func bare(v api.Value) api.Value {
	var items []api.Item
	for _, item := range v.Items {
		items = append(items, api.Item{Key: item.Key, V: bare(item.V)})
	}
	v.Items = items
	return v
}

func show(v api.Value) string {
	s, _ := deep.Show(v)
	return s
}

func empty() api.Value { return api.Value{Kind: api.List} }

// TestP10_4_Get: what the query says, whatever the request is otherwise.
func TestP10_4_Get(t *testing.T) {
	for s, want := range map[string]api.Value{
		"":                 empty(),
		"b=1":              named("b", "1"),
		"a[]=1&a[]=2":      listOf(under("a", named("0", "1", "1", "2"))),
		"a+b=%41&c":        named("a_b", "A", "c", ""),
		"a=1;b=2":          named("a", "1;b=2"),
		"?":                named("?", ""),
		"a b=\x00":         named("a_b", "\x00"),
		"5=x&[k]=y&z[k]=1": listOf(under("5", text("x")), under("z", named("k", "1"))),
	} {
		for _, q := range []api.Req{{Query: s}, {Method: "POST", Path: "/", Query: s, Body: "x=y", Heads: []api.Pair{pair("Content-Type", form), pair("Cookie", "b=2")}}} {
			if get, _, _, _ := Lists(q); !isSameList(get, want) {
				t.Errorf("get of %q = %s", s, show(get))
			}
		}
	}
}

const form = "application/x-www-form-urlencoded"

// TestP10_4_Post: when the body is a form.
func TestP10_4_Post(t *testing.T) {
	said := url.Query("a[]=1&b=x+y")
	for _, c := range []struct {
		method string
		heads  []api.Pair
		isForm bool
	}{
		{"POST", []api.Pair{pair("Content-Type", form)}, true},
		{"POST", []api.Pair{pair("content-TYPE", form)}, true},
		{"POST", []api.Pair{pair("A", "b"), pair("Content-Type", form+";")}, true},
		{"POST", []api.Pair{pair("Content-Type", form+"; charset=utf-8")}, true},
		{"POST", []api.Pair{pair("Content-Type", form+";;x")}, true},
		{"POST", []api.Pair{pair("Content-Type", form), pair("Content-Type", "text/plain")}, true},
		{"POST", []api.Pair{pair("Content-Type", "text/plain"), pair("Content-Type", form)}, false},
		{"POST", []api.Pair{pair("Content-Type", ""), pair("content-type", form)}, false},
		{"POST", nil, false},
		{"POST", []api.Pair{pair("Content-Type", "")}, false},
		{"POST", []api.Pair{pair("Content-Type", ";")}, false},
		{"POST", []api.Pair{pair("Content-Type", form+" ;")}, false},
		{"POST", []api.Pair{pair("Content-Type", form+",")}, false},
		{"POST", []api.Pair{pair("Content-Type", form+"s")}, false},
		{"POST", []api.Pair{pair("Content-Type", form[1:])}, false},
		{"POST", []api.Pair{pair("Content-Type", form[:len(form)-1])}, false},
		{"POST", []api.Pair{pair("Content-Type", " "+form)}, false},
		{"POST", []api.Pair{pair("Content-Type", "Application/x-www-form-urlencoded")}, false},
		{"POST", []api.Pair{pair("Content-Type", "multipart/form-data; "+form)}, false},
		{"POST", []api.Pair{pair("Content_Type", form)}, false},
		{"POST", []api.Pair{pair("X-Content-Type", form)}, false},
		{"GET", []api.Pair{pair("Content-Type", form)}, false},
		{"PUT", []api.Pair{pair("Content-Type", form)}, false},
		{"post", []api.Pair{pair("Content-Type", form)}, false},
		{"POSTS", []api.Pair{pair("Content-Type", form)}, false},
		{"", []api.Pair{pair("Content-Type", form)}, false},
	} {
		want := empty()
		if c.isForm {
			want = said
		}
		_, post, _, _ := Lists(api.Req{Method: c.method, Path: "/", Query: "q=1", Heads: c.heads, Body: "a[]=1&b=x+y"})
		if !isSameList(post, want) {
			t.Errorf("post of %s %v = %s", c.method, c.heads, show(post))
		}
		_, post, _, _ = Lists(api.Req{Method: c.method, Path: "/", Heads: c.heads})
		if !isSameList(post, empty()) {
			t.Errorf("post of %s %v without a body = %s", c.method, c.heads, show(post))
		}
	}
}

// TestP10_4_Cookie: what the heads named Cookie say.
func TestP10_4_Cookie(t *testing.T) {
	for _, c := range []struct {
		values []string
		want   api.Value
	}{
		{nil, empty()},
		{[]string{""}, empty()},
		{[]string{";;; ;="}, empty()},
		{[]string{"a"}, empty()},
		{[]string{"a; b ;"}, empty()},
		{[]string{"a="}, named("a", "")},
		{[]string{"a=b"}, named("a", "b")},
		{[]string{"a=b=c"}, named("a", "b=c")},
		{[]string{"=b"}, empty()},
		{[]string{"a=b;c=d"}, named("a", "b", "c", "d")},
		{[]string{"a=b; c=d;\t \te=f"}, named("a", "b", "c", "d", "e", "f")},
		{[]string{" \ta=b"}, named("a", "b")},
		{[]string{"a=b ; c =d"}, named("a", "b ", "c_", "d")},
		{[]string{"a= b"}, named("a", " b")},
		{[]string{"a=b,c=d"}, named("a", "b,c=d")},
		{[]string{"a=b&c=d"}, named("a", "b&c=d")},
		{[]string{"a&b=c"}, named("a&b", "c")},
		{[]string{"a%26b%3Dc=d%3De%26"}, named("a&b=c", "d=e&")},
		{[]string{"a%3Bb=%3B"}, named("a;b", ";")},
		{[]string{"a+b.c=d+e%20f"}, named("a_b_c", "d e f")},
		{[]string{"%20a=b"}, named("_a", "b")},
		{[]string{"+a=b"}, named("_a", "b")},
		{[]string{"a%=%;%2=%2&%2"}, named("a%", "%", "%2", "%2&%2")},
		{[]string{"%2541=%2541"}, named("%41", "%41")},
		{[]string{"\x80=\xff\t!"}, named("\x80", "\xff\t!")},
		{[]string{"\u00a0a=b"}, named("\u00a0a", "b")},
		{[]string{"a=1;a=2"}, named("a", "2")},
		{[]string{"a=1;b=2", "a=3;c=4"}, named("a", "3", "b", "2", "c", "4")},
		{[]string{"a=1;", ";b=2"}, named("a", "1", "b", "2")},
		{[]string{"a", "=b"}, empty()},
		{[]string{"a", "b=c"}, named("b", "c")},
		{[]string{"5=x;05=y;-0=z"}, named("5", "x", "05", "y", "-0", "z")},
		{[]string{"a[]=1;a[]=2;a[k]=3;b[k][l]=4"}, listOf(under("a", named("0", "1", "1", "2", "k", "3")), under("b", listOf(under("k", named("l", "4")))))},
		{[]string{"a%5B%5D=1", "a%5b]=2"}, listOf(under("a", named("0", "1", "1", "2")))},
		{[]string{"a=1;a[k]=2"}, listOf(under("a", named("k", "2")))},
		{[]string{"a[k]=1;a=2"}, named("a", "2")},
		{[]string{"[k]=1;[=2"}, empty()},
	} {
		for i, name := range []string{"Cookie", "cookie", "COOKIE", "cOOKIe"} {
			var heads []api.Pair
			for _, value := range c.values {
				heads = append(heads, pair("Cookies", "x=y"), pair(name, value), pair("Set-Cookie", "x=y"), pair("C", "x=y"))
			}
			_, _, cookie, _ := Lists(api.Req{Method: []string{"GET", "POST", "", "X"}[i], Query: "x=y", Heads: heads, Body: "x=y"})
			if !isSameList(cookie, c.want) {
				t.Errorf("cookies of %q = %s", c.values, show(cookie))
			}
		}
	}
}

// TestP10_4_Pairs: no more pieces are taken than there may be, of all heads together; pieces without = are not counted.
func TestP10_4_Pairs(t *testing.T) {
	count := func(values ...string) (int, api.Value) {
		var q api.Req
		for _, value := range values {
			q.Heads = append(q.Heads, pair("Cookie", value))
		}
		_, _, cookie, _ := Lists(q)
		return len(cookie.Items), cookie
	}
	for _, c := range []struct {
		values []string
		want   int
	}{
		{[]string{repeated(999, "a#=;")}, 999},
		{[]string{repeated(1000, "a#=;")}, 1000},
		{[]string{repeated(1001, "a#=;")}, 1000},
		{[]string{repeated(1500, "a#=;x;;")}, 1000},
		{[]string{repeated(600, "a#=;"), repeated(600, "b#=;")}, 1000},
		{[]string{repeated(600, "a#=;"), repeated(600, "=;"), "c="}, 600},
		{[]string{repeated(1000, "=;"), "c="}, 0},
		{[]string{repeated(999, "[a]=#;"), "c=;d="}, 1},
		{[]string{repeated(1000, "a=#;"), "a=x"}, 1},
		{[]string{repeated(1000, "a=#;"), "b=x"}, 1},
		{[]string{repeated(2000, "a;"), "c="}, 1},
		{[]string{strings.Repeat(";", 5000) + "c="}, 1},
	} {
		if got, _ := count(c.values...); got != c.want {
			t.Errorf("%d cookies of %.40q, not %d", got, c.values, c.want)
		}
	}
	if _, cookie := count(repeated(1000, "a=#;"), "a=x"); !isSameList(cookie, named("a", "999")) {
		t.Errorf("the last cookie is %s", show(cookie))
	}
	if _, cookie := count(repeated(400, "a#[b][c][d][e][f]=;")); deep.Count(cookie) > api.MaxItems || len(cookie.Items) != api.MaxItems/6 {
		t.Errorf("%d items of cookies", deep.Count(cookie))
	}
}

// TestP10_4_Server: what a page sees of the request itself.
func TestP10_4_Server(t *testing.T) {
	start := func(method, target, query, path string, more ...string) api.Value {
		return named(append([]string{"REQUEST_METHOD", method, "REQUEST_URI", target, "QUERY_STRING", query, "SCRIPT_NAME", path}, more...)...)
	}
	for _, c := range []struct {
		q    api.Req
		want api.Value
	}{
		{api.Req{}, start("", "", "", "")},
		{api.Req{Method: "GET", Path: "/a"}, start("GET", "/a", "", "/a")},
		{api.Req{Method: "GET", Path: "/a", Query: "b=%41"}, start("GET", "/a?b=%41", "b=%41", "/a")},
		{api.Req{Method: "get", Path: "a?", Query: "?"}, start("get", "a???", "?", "a?")},
		{api.Req{Heads: []api.Pair{pair("Host", "x")}}, start("", "", "", "", "HTTP_HOST", "x")},
		{api.Req{Heads: []api.Pair{pair("b", "1"), pair("A", "2"), pair("accept-Lang-9", "")}}, start("", "", "", "", "HTTP_B", "1", "HTTP_A", "2", "HTTP_ACCEPT_LANG_9", "")},
		{api.Req{Heads: []api.Pair{pair("a", "1"), pair("b", "2"), pair("A", "3")}}, start("", "", "", "", "HTTP_A", "3", "HTTP_B", "2")},
		{api.Req{Heads: []api.Pair{pair("a-b", "1"), pair("A_b", "2")}}, start("", "", "", "", "HTTP_A_B", "2")},
		{api.Req{Heads: []api.Pair{pair("", "1"), pair("-", "2"), pair("5", "3"), pair("\xff\u00e4.z{`@[", "4")}}, start("", "", "", "", "HTTP_", "1", "HTTP__", "2", "HTTP_5", "3", "HTTP_\xff\u00e4.Z{`@[", "4")},
		{api.Req{Heads: []api.Pair{pair("Cookie", "a=b"), pair("Content-Type", form), pair("Content-Length", "7")}, Body: "c=d"}, start("", "", "", "", "HTTP_COOKIE", "a=b", "HTTP_CONTENT_TYPE", form, "HTTP_CONTENT_LENGTH", "7")},
	} {
		if _, _, _, server := Lists(c.q); !isSameList(server, c.want) {
			t.Errorf("server of %+v = %s, not %s", c.q, show(server), show(c.want))
		}
	}
}

// TestP10_4_ServerFull: above the most items names are left out, but those that are there are turned on.
func TestP10_4_ServerFull(t *testing.T) {
	var q api.Req
	for i := range api.MaxItems + 10 {
		q.Heads = append(q.Heads, pair("n"+strconv.Itoa(i), "v"))
	}
	q.Heads = append(q.Heads, pair("N0", "last"), pair("other", "x"))
	_, _, _, server := Lists(q)
	last := server.Items[len(server.Items)-1]
	if len(server.Items) != api.MaxItems || last.Key.Text != "HTTP_N"+strconv.Itoa(api.MaxItems-5) || !isSameList(server.Items[4].V, text("last")) || !deep.Right(server) {
		t.Errorf("%d items, the last %+v, the first head's %+v", len(server.Items), last, server.Items[4])
	}
}

// TestR4_Lists: lists that are answered share nothing.
func TestR4_Lists(t *testing.T) {
	q := api.Req{Method: "POST", Query: "a[]=1", Body: "a[]=1", Heads: []api.Pair{pair("Cookie", "a[]=1"), pair("Content-Type", form)}}
	get, post, cookie, server := Lists(q)
	for _, v := range []api.Value{post, cookie} {
		get.Items[0].V.Items[0].V = text("blot")
		if !isSameList(v, url.Query("a[]=1")) {
			t.Errorf("lists share items: %s", show(v))
		}
		get = v
	}
	server.Items[0] = under("blot", text("blot"))
	if again, _, _, other := Lists(q); !isSameList(again, url.Query("a[]=1")) || other.Items[0].Key.Text != "REQUEST_METHOD" {
		t.Error("an answer is kept")
	}
}
