package tree

import (
	"strings"

	"ostler/api"
)

func (p *parser) expr() api.Node {
	return p.nested((*parser).anyExpr)
}

func (p *parser) anyExpr() api.Node {
	if p.seesOne("include", "include_once", "require", "require_once") {
		first := p.take()
		return named("include", first, first.Text, p.expr())
	}
	return p.cond()
}

func (p *parser) cond() api.Node {
	test := p.coal()
	if !p.sees("?") {
		return test
	}
	sign := p.take()
	middle := p.optional(":")
	p.need(":")
	return node("cond", sign, test, middle, p.expr())
}

func (p *parser) coal() api.Node {
	left := p.operands(loosest)
	if !p.sees("??") {
		return left
	}
	sign := p.take()
	return named("bin", sign, sign.Text, left, p.expr())
}

// How close a sign between operands binds.
const (
	noOperator = iota
	bindsOr
	bindsAnd
	bindsEqual
	bindsLess
	bindsJoin
	bindsSum
	bindsTerm

	loosest = bindsOr
	closest = bindsTerm
)

func binding(tok api.Tok) int {
	if tok.Kind != api.TokSign {
		return noOperator
	}
	switch tok.Text {
	case "||":
		return bindsOr
	case "&&":
		return bindsAnd
	case "==", "!=", "===", "!==", "<=>":
		return bindsEqual
	case "<", "<=", ">", ">=":
		return bindsLess
	case ".":
		return bindsJoin
	case "+", "-":
		return bindsSum
	case "*", "%":
		return bindsTerm
	}
	return noOperator
}

// operands reads what signs that bind as told, or closer, hold together.
func (p *parser) operands(binds int) api.Node {
	if binds > closest {
		return p.pre()
	}
	left := p.operands(binds + 1)
	for binding(p.tok()) == binds {
		sign := p.take()
		left = named("bin", sign, sign.Text, left, p.operands(binds+1))
		if binds == bindsEqual || binds == bindsLess {
			break
		}
	}
	return left
}

func (p *parser) pre() api.Node {
	return p.nested((*parser).anyPre)
}

func (p *parser) anyPre() api.Node {
	tok := p.tok()
	switch {
	case p.seesCast():
		p.take()
		word := p.take()
		p.take()
		return named("cast", tok, strings.ToLower(word.Text), p.pre())
	case p.skip("!"):
		return node("not", tok, p.pre())
	case p.skip("-"):
		return node("minus", tok, p.pre())
	case p.skip("clone"):
		return node("clone", tok, p.pre())
	case p.skip("++") || p.skip("--"):
		n := p.pre()
		if !isPlace(n) {
			p.fail(api.ErrPlace, tok)
		}
		return named("pre", tok, tok.Text, n)
	}
	return p.operand()
}

// seesCast tells whether one of the four words in brackets is next.
func (p *parser) seesCast() bool {
	word := p.ahead(1)
	if !p.sees("(") || !isWord(word) || !isSign(p.ahead(2), ")") {
		return false
	}
	switch strings.ToLower(word.Text) {
	case "int", "string", "bool", "array":
		return true
	}
	return false
}

// operand reads a Post, with an assignment whose sign stands right behind it, or an instanceof.
func (p *parser) operand() api.Node {
	n, open := p.post()
	switch {
	case p.seesOne("=", "+=", "-=", "*=", "%=", ".=", "??="):
		return p.assignment(n)
	case open:
		p.fail(api.ErrPlace, p.tok())
	case p.sees("instanceof"):
		return node("is", p.take(), n, p.ref())
	}
	return n
}
