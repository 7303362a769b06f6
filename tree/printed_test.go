package tree

import (
	"math/rand"
	"strconv"
	"strings"
	"testing"

	"ostler/api"
)

// How close what an expression is made of holds together, as levels of the grammar.
const (
	levelExpr = iota
	levelCoal
	levelOr
	levelAnd
	levelEqual
	levelLess
	levelJoin
	levelSum
	levelTerm
	levelPre
	levelPost
)

var operators = [][]string{
	levelOr: {"||"}, levelAnd: {"&&"}, levelEqual: {"==", "!=", "===", "!==", "<=>"}, levelLess: {"<", "<=", ">", ">="}, levelJoin: {"."}, levelSum: {"+", "-"}, levelTerm: {"*", "%"},
}

// levelOf is the level of an operator.
func levelOf(sign string) int {
	for level, signs := range operators {
		for _, s := range signs {
			if s == sign {
				return level
			}
		}
	}
	return levelCoal
}

func of(op, text string, kids ...api.Node) api.Node {
	return api.Node{Op: op, Text: text, Kids: kids}
}

// exprOfChance is an expression of so many nodes within one another.
func exprOfChance(chance *rand.Rand, most int) api.Node {
	one := func() api.Node { return exprOfChance(chance, most-1) }
	if most == 0 {
		leaves := []api.Node{of("var", "a"), {Op: "int", Int: chance.Intn(9)}, of("name", "b"), of("text", "c")}
		return leaves[chance.Intn(len(leaves))]
	}
	switch chance.Intn(14) {
	case 0, 1, 2, 3:
		signs := operators[levelOr+chance.Intn(levelTerm-levelOr+1)]
		return of("bin", signs[chance.Intn(len(signs))], one(), one())
	case 4:
		return of("bin", "??", one(), one())
	case 5:
		return of("cond", "", one(), one(), one())
	case 6:
		return of([]string{"not", "minus", "clone"}[chance.Intn(3)], "", one())
	case 7:
		return of("cast", "int", one())
	case 8:
		return of("is", "", one(), of("name", "A"))
	case 9:
		return of("assign", "+=", of("index", "", of("var", "a"), one()), one())
	case 10:
		return of("index", "", one(), one())
	case 11:
		return of("call", "", one(), one(), one())
	case 12:
		return of("list", "", of("item", "", one()), of("item", "", one(), one()))
	}
	return of("include", "require", one())
}

// printed is an expression's text with as few brackets as can be, where so close a level is needed. What goes on up to its end can't stand ahead of other things.
func printed(n api.Node, level int, last bool) string {
	own, s := levelPost, ""
	all := func(n api.Node) string { return printed(n, levelExpr, true) }
	switch n.Op {
	case "var":
		s = "$" + n.Text
	case "int":
		s = strconv.Itoa(n.Int)
	case "name":
		s = n.Text
	case "text":
		s = "'" + n.Text + "'"
	case "bin":
		own = levelOf(n.Text)
		if n.Text == "??" {
			s = printed(n.Kids[0], levelOr, false) + "??" + all(n.Kids[1])
			if !last {
				own = levelExpr
			}
			break
		}
		left, right := own, own+1
		if own == levelEqual || own == levelLess {
			left = own + 1
		}
		s = printed(n.Kids[0], left, false) + n.Text + " " + printed(n.Kids[1], right, last)
	case "cond":
		own = levelExpr
		s = printed(n.Kids[0], levelCoal, false) + "?" + all(n.Kids[1]) + ":" + all(n.Kids[2])
	case "not", "minus", "clone", "cast":
		own = levelPre
		s = map[string]string{"not": "!", "minus": "- ", "clone": "clone ", "cast": "(int)"}[n.Op] + printed(n.Kids[0], levelPre, last)
	case "is":
		own = levelPre
		s = printed(n.Kids[0], levelPost, false) + " instanceof " + n.Kids[1].Text
	case "assign":
		own = levelPre
		if !last {
			own = levelExpr
		}
		s = printed(n.Kids[0], levelPost, false) + n.Text + all(n.Kids[1])
	case "index":
		s = printed(n.Kids[0], levelPost, false) + "[" + all(n.Kids[1]) + "]"
	case "call":
		s = printed(n.Kids[0], levelPost, false) + "(" + all(n.Kids[1]) + "," + all(n.Kids[2]) + ")"
	case "list":
		item := n.Kids[1].Kids
		s = "[" + all(n.Kids[0].Kids[0]) + "," + all(item[0]) + "=>" + all(item[1]) + "]"
	case "include":
		own = levelExpr
		s = n.Text + " " + all(n.Kids[0])
	}
	if own < level {
		return "(" + printed(n, levelExpr, true) + ")"
	}
	return s
}

// TestP3_1_Printed: expressions that are written with as few brackets as can be come back the same.
func TestP3_1_Printed(t *testing.T) {
	chance := rand.New(rand.NewSource(4))
	brackets := 0
	for range 20000 {
		want := exprOfChance(chance, chance.Intn(6))
		file := open + printed(want, levelExpr, true) + ";"
		n, fault := Parse(file)
		if fault != (api.Fault{}) || !Same(n, of("file", "", of("expr", "", want))) {
			t.Fatalf("Parse(%q): %+v\n got %s\nwant %s", file, fault, dump(n, false), dump(want, false))
		}
		brackets += strings.Count(file, "(")
	}
	if brackets < 1000 {
		t.Errorf("just %d brackets", brackets)
	}
}
