package raw

import (
	"strings"

	"ostler/api"
	"ostler/list"
	"ostler/url"
)

// Lists is what a page sees of a request.
func Lists(q api.Req) (get, post, cookie, server api.Value) {
	return url.Query(q.Query), postOf(q), cookiesOf(q.Heads), serverOf(q)
}

// postOf is what the body says, if it is a form.
func postOf(q api.Req) api.Value {
	const form = "application/x-www-form-urlencoded"
	kind, _ := Head(q, "Content-Type")
	if q.Method == "POST" && (kind == form || strings.HasPrefix(kind, form+";")) {
		return url.Query(q.Body)
	}
	return url.Query("")
}

// cookiesOf is what the cookies say. They are said once more as one query, as that puts all of them into one list at once, where putting one by one would make the list anew each time; and a query, too, takes MaxPairs pieces at most.
func cookiesOf(heads []api.Pair) api.Value {
	var pairs []string
	for _, head := range heads {
		if isSameName(head.Name, "Cookie") {
			pairs = pairsOn(pairs, head.Value)
		}
	}
	return url.Query(strings.Join(pairs, "&"))
}

// pairsOn adds the pairs of a query that say what a head's cookies say.
func pairsOn(pairs []string, value string) []string {
	for _, piece := range strings.Split(value, ";") {
		if name, text, ok := strings.Cut(strings.TrimLeft(piece, blanks), "="); ok {
			pairs = append(pairs, url.Enc(url.Dec(name))+"="+url.Enc(url.Dec(text)))
		}
	}
	return pairs
}

// serverOf is what the request itself is.
func serverOf(q api.Req) api.Value {
	texts := list.New[string]()
	// What Set refuses is above the most items, and left out.
	set := func(name, value string) { texts.Set(api.Key{IsText: true, Text: name}, value) }
	set("REQUEST_METHOD", q.Method)
	set("REQUEST_URI", targetOf(q))
	set("QUERY_STRING", q.Query)
	set("SCRIPT_NAME", q.Path)
	for _, head := range q.Heads {
		set(serverName(head.Name), head.Value)
	}
	v := api.Value{Kind: api.List, Int: texts.Next()}
	for k, text := range texts.All() {
		v.Items = append(v.Items, api.Item{Key: k, V: api.Value{Kind: api.Text, Text: text}})
	}
	return v
}

// serverName is the name under which a page sees a head.
func serverName(head string) string {
	name := []byte("HTTP_" + head)
	for i, c := range name {
		name[i] = capital(c)
		if c == '-' {
			name[i] = '_'
		}
	}
	return string(name)
}
