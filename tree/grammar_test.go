package tree

import (
	"math/rand"
	"strings"

	"ostler/api"
)

// grammarText is the chapter's grammar once more, but: an assignment is told where it is read, a place is any expression, a `?>` that is left out stands among the statements, and the `( )` behind an exit are its own. Casts are left out: of these the grammar alone does not tell which `( )` they are.
const grammarText = `
File    = List .
List    = { Stmt | "?>" } .
End     = ";" | "?>" .
Stmt    = html | End | Block | "echo" Expr { "," Expr } End
        | "if" "(" Expr ")" Stmt { "elseif" "(" Expr ")" Stmt } [ "else" Stmt ]
        | "while" "(" Expr ")" Stmt | "do" Stmt "while" "(" Expr ")" End
        | "for" "(" [ Expr ] End [ Expr ] End [ Expr ] ")" Stmt
        | "foreach" "(" Expr "as" var [ "=>" var ] ")" Stmt
        | "switch" "(" Expr ")" "{" { ( "case" Expr | "default" ) ":" List } "}"
        | ( "break" | "continue" ) [ int ] End | "return" [ Expr ] End | "throw" Expr End
        | "global" var { "," var } End | "static" var [ "=" Expr ] End
        | "unset" "(" Expr ")" End | "const" word "=" Expr End
        | "try" Block { "catch" "(" name { "|" name } [ var ] ")" Block } [ "finally" Block ]
        | "namespace" name End | "use" name [ "as" word ] End
        | "function" word Params Block | Class | Expr End .
Block   = "{" List "}" .
Params  = "(" [ Param { "," Param } ] ")" .
Param   = [ "&" ] var [ "=" Expr ] .
Class   = [ "abstract" | "final" ] "class" word [ "extends" name ] [ "implements" name { "," name } ] Members
        | "interface" word [ "extends" name { "," name } ] Members | "trait" word Members .
Members = "{" { Member } "}" .
Member  = "const" word "=" Expr End | "use" name { "," name } ( End | "{" { Rule } "}" )
        | "public" [ "static" ] var [ "=" Expr ] End
        | "public" [ "abstract" | "final" ] [ "static" ] "function" word Params ( Block | End ) .
Rule    = [ name "::" ] word ( "insteadof" name { "," name } | "as" word ) End .
Expr    = ( "include" | "include_once" | "require" | "require_once" ) Expr | Cond .
Cond    = Coal [ "?" [ Expr ] ":" Expr ] .
Coal    = Or [ "??" Expr ] .
Or      = And { "||" And } .
And     = Equal { "&&" Equal } .
Equal   = Less [ ( "==" | "!=" | "===" | "!==" | "<=>" ) Less ] .
Less    = Join [ ( "<" | "<=" | ">" | ">=" ) Join ] .
Join    = Sum { "." Sum } .
Sum     = Term { ( "+" | "-" ) Term } .
Term    = Pre { ( "*" | "%" ) Pre } .
Pre     = ( "!" | "-" | "clone" | "++" | "--" ) Pre | Post [ "instanceof" Ref | Sign Expr | "=" "&" var ] .
Sign    = "=" | "+=" | "-=" | "*=" | "%=" | ".=" | "??=" .
Post    = ( Atom | "exit" "(" [ Expr ] ")" ) { Step | Args } | "exit" [ Step { Step | Args } ] .
Step    = "[" [ Expr ] "]" | "->" word [ Args ] | "++" | "--" .
Args    = "(" [ Expr { "," Expr } ] ")" .
Atom    = var | int | text | parts | name | "(" Expr ")" | "[" [ Item { "," Item } [ "," ] ] "]"
        | Ref "::" ( var | word [ Args ] ) | "new" Ref [ Args ] | "isset" "(" Expr ")" | "empty" "(" Expr ")"
        | "function" Params [ "use" "(" Use { "," Use } ")" ] Block | "fn" Params "=>" Expr .
Item    = Expr [ "=>" Expr ] .
Use     = [ "&" ] var .
Ref     = name | "static" | var .
`

// grammar has rules by what they are of; what has none is a kind of token: a sign, with a quote ahead, or a word of the grammar.
type grammar struct {
	rules map[string][][]string
	heads int
}

// grammarReader reads the rules of a text. What may be left out, and what may be many, gets a head of its own.
type grammarReader struct {
	words []string
	g     grammar
}

func readGrammar(text string) grammar {
	r := &grammarReader{strings.Fields(text), grammar{rules: map[string][][]string{}}}
	for len(r.words) > 0 {
		head := r.words[0]
		r.words = r.words[2:]
		r.g.rules[head] = r.choices()
		r.words = r.words[1:]
	}
	return r.g
}

func (r *grammarReader) choices() [][]string {
	all := [][]string{r.sequence()}
	for r.words[0] == "|" {
		r.words = r.words[1:]
		all = append(all, r.sequence())
	}
	return all
}

func (r *grammarReader) sequence() []string {
	seq := []string{}
	for !strings.Contains(" . ) ] } | ", " "+r.words[0]+" ") {
		first := r.words[0]
		r.words = r.words[1:]
		if !strings.Contains(" ( [ { ", " "+first+" ") {
			seq = append(seq, strings.TrimSuffix(first, `"`))
			continue
		}
		r.g.heads++
		head := first + strings.Repeat("'", r.g.heads)
		choices := r.choices()
		r.words = r.words[1:]
		switch first {
		case "[":
			choices = append(choices, []string{})
		case "{":
			for i := range choices {
				choices[i] = append(choices[i], head)
			}
			choices = append(choices, []string{})
		}
		r.g.rules[head] = choices
		seq = append(seq, head)
	}
	return seq
}

// kinds are the kinds of token that a token is.
func kinds(tok api.Tok) []string {
	switch tok.Kind {
	case api.TokHtml:
		return []string{"html"}
	case api.TokVar:
		return []string{"var"}
	case api.TokInt:
		return []string{"int"}
	case api.TokText:
		return []string{"text"}
	case api.TokParts:
		return []string{"parts"}
	case api.TokName:
		if !strings.Contains(tok.Text, `\`) {
			return []string{"name", "word"}
		}
		return []string{"name"}
	}
	return []string{`"` + tok.Text}
}

// earleyItem is a rule of which a part has been seen, from a token on.
type earleyItem struct {
	head       string
	rule, seen int
	from       int
}

// firstWrong is how many tokens there are ahead of the first one with which no file of the grammar can go on; whether the tokens are a file, if there is none.
func (g grammar) firstWrong(toks []api.Tok) (int, bool) {
	columns := make([][]earleyItem, len(toks)+1)
	there := make([]map[earleyItem]bool, len(toks)+1)
	for i := range there {
		there[i] = map[earleyItem]bool{}
	}
	put := func(at int, it earleyItem) {
		if !there[at][it] {
			there[at][it] = true
			columns[at] = append(columns[at], it)
		}
	}
	for i := range g.rules["File"] {
		put(0, earleyItem{"File", i, 0, 0})
	}
	for at := 0; at <= len(toks) && len(columns[at]) > 0; at++ {
		nullable := map[string]bool{}
		for i := 0; i < len(columns[at]); i++ {
			it := columns[at][i]
			rule := g.rules[it.head][it.rule]
			if it.seen == len(rule) {
				nullable[it.head] = nullable[it.head] || it.from == at
				for j := 0; j < len(columns[it.from]); j++ {
					if up := columns[it.from][j]; up.awaits(g, it.head) {
						put(at, up.next())
					}
				}
				continue
			}
			next := rule[it.seen]
			for j := range g.rules[next] {
				put(at, earleyItem{next, j, 0, at})
			}
			if nullable[next] {
				put(at, it.next())
			}
			if at < len(toks) {
				for _, kind := range kinds(toks[at]) {
					if kind == next {
						put(at+1, it.next())
					}
				}
			}
		}
	}
	for at := range columns {
		if len(columns[at]) == 0 {
			return at - 1, false
		}
	}
	for _, it := range columns[len(toks)] {
		if it.head == "File" && it.seen == len(g.rules["File"][it.rule]) {
			return len(toks), true
		}
	}
	return len(toks), false
}

func (it earleyItem) awaits(g grammar, head string) bool {
	rule := g.rules[it.head][it.rule]
	return it.seen < len(rule) && rule[it.seen] == head
}

func (it earleyItem) next() earleyItem {
	it.seen++
	return it
}

// texts are what tokens of a kind are written as.
func texts(kind string) []string {
	switch kind {
	case "html":
		return []string{"?>h<?php "}
	case `"?>`:
		return []string{"?><?php "}
	case "var":
		return []string{"$a", "$b", "$this"}
	case "int":
		return []string{"0", "1", "0x2f"}
	case "text":
		return []string{"'t'", `"u"`}
	case "parts":
		return []string{`"$a[0]w"`, "\"$b->p\""}
	case "name":
		return []string{"f", "A", `\B\c`, `D\e`}
	case "word":
		return []string{"g", "K"}
	}
	return []string{strings.TrimPrefix(kind, `"`)}
}

// ofChance are the tokens, as written, of something of the grammar. With too much room used up the shortest rule is taken.
func (g grammar) ofChance(chance *rand.Rand, head string, room *int) []string {
	rules, found := g.rules[head]
	if !found {
		all := texts(head)
		return []string{all[chance.Intn(len(all))]}
	}
	*room--
	rule := rules[chance.Intn(len(rules))]
	if *room < 0 {
		rule = g.shortest(rules)
	}
	var all []string
	for _, part := range rule {
		all = append(all, g.ofChance(chance, part, room)...)
	}
	return all
}

// shortest is the rule that comes to an end with the fewest heads within one another.
func (g grammar) shortest(rules [][]string) []string {
	for most := 0; ; most++ {
		for _, rule := range rules {
			if g.ends(rule, most) {
				return rule
			}
		}
	}
}

func (g grammar) ends(rule []string, most int) bool {
	for _, part := range rule {
		rules, found := g.rules[part]
		good := !found
		for _, inner := range rules {
			good = good || most > 0 && g.ends(inner, most-1)
		}
		if !good {
			return false
		}
	}
	return true
}
