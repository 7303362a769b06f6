package raw

import (
	"math/rand"
	"reflect"
	"regexp"
	"strconv"
	"strings"
	"testing"

	"ostler/api"
	"ostler/url"
)

// rawPattern is the chapter's request once more, but for how many head lines there are, and the body's length.
var rawPattern = regexp.MustCompile(`^([A-Z]{1,16}) (/[\x21-\x3e\x40-\x7e]*)(?:\?([\x21-\x7e]*))? HTTP/1\.1\r\n((?:[A-Za-z0-9-]{1,64}:[^\x00-\x08\x0a-\x1f\x7f]*\r\n)*)\r\n`)

var headPattern = regexp.MustCompile(`([A-Za-z0-9-]{1,64}):[ \t]*((?:[^\x00-\x08\x0a-\x1f\x7f]*[^\x00-\x20\x7f])?)[ \t]*\r\n`)

// lengthPattern is what the digits of a length are.
var lengthPattern = regexp.MustCompile(`^(0|[1-9][0-9]{0,8})$`)

// modelParse is Parse once more, of what may be a request: false, if there is any fault.
func modelParse(s string) (api.Req, bool) {
	m := rawPattern.FindStringSubmatch(s)
	if m == nil || len(s) > api.MaxText {
		return api.Req{}, false
	}
	q := api.Req{Method: m[1], Path: m[2], Query: m[3], Body: s[len(m[0]):]}
	seen := false
	for _, head := range headPattern.FindAllStringSubmatch(m[4], -1) {
		q.Heads = append(q.Heads, pair(head[1], head[2]))
		if strings.ToLower(head[1]) == "content-length" && !seen {
			seen = true
			n, _ := strconv.Atoi(head[2])
			if !lengthPattern.MatchString(head[2]) || n != len(q.Body) {
				return api.Req{}, false
			}
		}
	}
	return q, len(q.Heads) <= api.MaxHeads
}

// goesOn tells whether a text may be the beginning of a request (or more than one, body and all).
func goesOn(s string) bool {
	const end = " / HTTP/1.1\r\n\r\n"
	for i := range len(end) {
		if rawPattern.MatchString(s + end[i:]) {
			return true
		}
	}
	for _, more := range []string{"", "G" + end, "A:\r\n\r\n", ":\r\n\r\n", "\n\r\n"} {
		if rawPattern.MatchString(s + more) {
			return true
		}
	}
	return false
}

// chanceRaw is a request by chance, with a fault here and there.
func chanceRaw(chance *rand.Rand) string {
	pick := func(all ...string) string { return all[chance.Intn(len(all))] }
	var s strings.Builder
	s.WriteString(pick("GET", "POST", "A", "") + " " + pick("/", "/a", "/a/b", "") + pick("", "?", "?a=b", "??") + " HTTP/1.1\r\n")
	body := pick("", "x", "a=b", "\r\n", "0123456789")
	most := 5
	if chance.Intn(20) == 0 {
		most = 80
	}
	for range chance.Intn(most) {
		name := pick("A", "Host", "Cookie", "Content-Type", "x-9", strings.Repeat("n", 64), "B")
		value := pick("", "b", " b", "b c", "b\tc", "\xffb", ":", "\u00e4", "a=b; c=d")
		if chance.Intn(12) == 0 {
			name, value = pick("Content-Length", "content-length"), pick(strconv.Itoa(len(body)), strconv.Itoa(len(body)), "0", "01", "")
		}
		s.WriteString(name + ":" + pick("", " ", " \t") + value + pick("", "", " ", "\t ") + "\r\n")
	}
	s.WriteString("\r\n" + body)
	out := s.String()
	for range chance.Intn(3) {
		at := chance.Intn(len(out) + 1)
		switch chance.Intn(3) {
		case 0:
			out = out[:at]
		case 1:
			out = out[:at] + pick(" ", "\r", "\n", "\t", ":", "\x00", "\x7f", "\xff", "A", "a", "1", "_", "/", "?", "\r\n", "\r\n\r\n") + out[at:]
		case 2:
			out = out[:at] + out[min(at+1, len(out)):]
		}
	}
	return out
}

// TestP10_1_Chance: requests by chance against the patterns; a fault is where the beginning stops being one.
func TestP10_1_Chance(t *testing.T) {
	chance := rand.New(rand.NewSource(10))
	seen := map[api.Errno]int{}
	for range 40000 {
		s := chanceRaw(chance)
		got, fault := Parse(s)
		seen[fault.Why]++
		want, ok := modelParse(s)
		if ok != (fault == api.Fault{}) || !isSameReq(got, want) && ok || !ok && !reflect.DeepEqual(got, api.Req{}) {
			t.Fatalf("Parse(%q) = %+v, %+v, not %+v", s, got, fault, want)
		}
		switch fault.Why {
		case api.ErrForm:
			ok = goesOn(s[:fault.At]) && !goesOn(s[:fault.At+1])
		case api.ErrOpen:
			ok = fault.At == len(s) && goesOn(s) && !rawPattern.MatchString(s)
		case api.ErrMany:
			ok = strings.Count(s[:fault.At], "\r\n") == api.MaxHeads+1 && s[fault.At] != '\r'
		case api.ErrNum:
			ok = rawPattern.MatchString(s) && strings.HasSuffix(strings.ToLower(strings.TrimRight(s[:fault.At], " \t")), "\r\ncontent-length:")
		default:
			ok = fault == api.Fault{}
		}
		if !ok {
			t.Fatalf("Parse(%q) has the fault %+v", s, fault)
		}
		if fault.Why == api.OK {
			checkBack(t, got)
		}
	}
	for _, why := range []api.Errno{api.OK, api.ErrForm, api.ErrOpen, api.ErrMany, api.ErrNum} {
		if seen[why] < 100 {
			t.Errorf("%v was seen %d times", why, seen[why])
		}
	}
}

// checkBack checks that a request that was read is written, and read again.
func checkBack(t *testing.T, q api.Req) {
	t.Helper()
	s, why := Text(q)
	if why != api.OK {
		t.Fatalf("Text(%+v) has the error %v", q, why)
	}
	if again, fault := Parse(s); fault != (api.Fault{}) || !isSameReq(again, q) {
		t.Fatalf("Parse(%q) = %+v, %+v, not %+v", s, again, fault, q)
	}
}

// TestP10_5_ThereAndBack: fields by chance are written only if they come back.
func TestP10_5_ThereAndBack(t *testing.T) {
	chance := rand.New(rand.NewSource(105))
	pick := func(all ...string) string { return all[chance.Intn(len(all))] }
	written := 0
	for range 40000 {
		q := api.Req{Method: pick("GET", "A", "A", "", "a", "A "), Path: pick("/", "/a", "/a", "", "/a?b", "/ ", "/\x7f"), Query: pick("", "a=b", "?", " "), Body: pick("", "x", "\r\n\xff")}
		for range chance.Intn(3) {
			q.Heads = append(q.Heads, pair(pick("A", "b-9", "Content-Length", "", "a:", "_"), pick("", "1", "0", "b", "b c", " b", "b ", "\n", "b\r\nC: d")))
		}
		s, why := Text(q)
		want := q.Method + " " + q.Path
		if q.Query != "" {
			want += "?" + q.Query
		}
		want += " HTTP/1.1\r\n"
		for _, head := range q.Heads {
			want += head.Name + ": " + head.Value + "\r\n"
		}
		want += "\r\n" + q.Body
		back, ok := modelParse(want)
		ok = ok && isSameReq(back, q)
		if ok != (why == api.OK) || ok && s != want || !ok && (s != "" || why != api.ErrArg) {
			t.Fatalf("Text(%+v) = %q, %v", q, s, why)
		}
		if ok {
			written++
			checkBack(t, q)
		}
	}
	if written < 1000 {
		t.Errorf("%d requests were written", written)
	}
}

// TestP10_4_Chance: cookies put one by one, and the server's texts, once more.
func TestP10_4_Chance(t *testing.T) {
	chance := rand.New(rand.NewSource(104))
	pick := func(all ...string) string { return all[chance.Intn(len(all))] }
	for range 20000 {
		q := api.Req{Method: pick("GET", "POST"), Path: pick("/", "/a"), Query: pick("", "a=b", "a[]=1&a[]=2"), Body: pick("", "x=y", "a[]=b")}
		for range chance.Intn(5) {
			var value strings.Builder
			for range chance.Intn(12) {
				value.WriteString(pick("a", "b", "=", "=", ";", ";", " ", "\t", "&", "%", "%3B", "%26", "%5B", "[]", "[b]", "]", "+", "5", ".", "\xff"))
			}
			q.Heads = append(q.Heads, pair(pick("Cookie", "cookie", "Content-Type", "X-a", "x_A"), pick(value.String(), value.String(), form)))
		}
		want, seen, kinds := empty(), map[string]string{}, []string{}
		for _, head := range q.Heads {
			if head.Name == "Content-Type" {
				kinds = append(kinds, head.Value)
			}
			seen["HTTP_"+strings.ReplaceAll(strings.ToUpper(head.Name), "-", "_")] = head.Value
			if strings.ToLower(head.Name) != "cookie" {
				continue
			}
			for _, piece := range strings.Split(head.Value, ";") {
				if name, said, ok := strings.Cut(strings.TrimLeft(piece, " \t"), "="); ok {
					want, _ = url.Put(want, url.Dec(name), url.Dec(said))
				}
			}
		}
		get, post, cookie, server := Lists(q)
		wantPost := empty()
		if q.Method == "POST" && len(kinds) > 0 && strings.HasPrefix(kinds[0]+";", form+";") {
			wantPost = url.Query(q.Body)
		}
		if !isSameList(get, url.Query(q.Query)) || !isSameList(post, wantPost) || !isSameList(cookie, want) || len(server.Items) != 4+len(seen) {
			t.Fatalf("Lists(%+v) = %s, %s, %s, %s", q, show(get), show(post), show(cookie), show(server))
		}
		for _, item := range server.Items[4:] {
			if item.V.Text != seen[item.Key.Text] || item.V.Kind != api.Text {
				t.Fatalf("server of %+v = %s", q, show(server))
			}
		}
	}
}

// TestP10_6_Apart: each list hangs on its part of the request alone.
func TestP10_6_Apart(t *testing.T) {
	base := api.Req{Method: "POST", Path: "/p", Query: "a=1", Heads: []api.Pair{pair("Cookie", "c=1"), pair("Content-Type", form)}, Body: "b=1"}
	with := func(turn func(q *api.Req)) api.Req {
		q := base
		q.Heads = append([]api.Pair{}, base.Heads...)
		turn(&q)
		return q
	}
	for what, q := range map[string]api.Req{
		" p  ": with(func(q *api.Req) { q.Body = "b=2" }),
		"   s": with(func(q *api.Req) { q.Heads = append(q.Heads, pair("Host", "x")) }),
		"  s ": with(func(q *api.Req) { q.Path = "/q" }),
		"  cs": with(func(q *api.Req) { q.Heads[0].Value = "c=2" }),
		" p s": with(func(q *api.Req) { q.Heads[1].Value = "text/plain" }),
		"g  s": with(func(q *api.Req) { q.Query = "a=2" }),
		" ps ": with(func(q *api.Req) { q.Method = "PUT" }),
		"    ": with(func(q *api.Req) {}),
	} {
		var got, first [4]api.Value
		got[0], got[1], got[2], got[3] = Lists(q)
		first[0], first[1], first[2], first[3] = Lists(base)
		for i, letter := range "gpcs" {
			if isTurned := !isSameList(got[i], first[i]); isTurned != strings.ContainsRune(what, letter) {
				t.Errorf("%q: list %d of %+v is %s", what, i, q, show(got[i]))
			}
		}
	}
}
