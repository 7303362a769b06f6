package tree

import (
	"strconv"

	"ostler/api"
)

func (p *parser) atom() api.Node {
	tok := p.tok()
	switch tok.Kind {
	case api.TokVar, api.TokName:
		n := p.ref()
		if p.sees("::") {
			return p.ofClass(n)
		}
		return n
	case api.TokInt:
		n := node("int", p.take())
		n.Int = tok.Int
		return n
	case api.TokText:
		return named("text", p.take(), tok.Text)
	case api.TokParts:
		return parts(p.take())
	}
	return p.signAtom()
}

// signAtom reads an atom that a sign begins.
func (p *parser) signAtom() api.Node {
	first := p.tok()
	switch {
	case p.sees("("):
		return p.bracketed()
	case p.sees("["):
		return p.list()
	case p.sees("static"):
		return p.ofClass(p.ref())
	case p.skip("new"):
		return p.newObject(first)
	case p.skip("isset"):
		return node("isset", first, p.bracketedPlace())
	case p.skip("empty"):
		return node("isempty", first, p.bracketed())
	case p.skip("exit"):
		return p.exit(first)
	case p.skip("function"):
		return p.closure(first)
	}
	p.need("fn")
	kids := p.params()
	p.need("=>")
	return node("fn", first, append(kids, p.expr())...)
}

func (p *parser) newObject(first api.Tok) api.Node {
	class := p.ref()
	if p.sees("(") {
		return node("new", first, p.args(class)...)
	}
	return node("new", first, class)
}

func (p *parser) exit(first api.Tok) api.Node {
	n := node("exit", first)
	if !p.skip("(") {
		return n
	}
	if !p.sees(")") {
		n.Kids = []api.Node{p.expr()}
	}
	p.need(")")
	return n
}

func (p *parser) closure(first api.Tok) api.Node {
	kids := p.params()
	uses := api.Node{Op: "uses"}
	if p.skip("use") {
		uses.Kids = p.uses()
	}
	return node("closure", first, append(kids, uses, p.block())...)
}

func (p *parser) uses() []api.Node {
	p.need("(")
	uses := []api.Node{p.varOrReference("use")}
	for p.skip(",") {
		uses = append(uses, p.varOrReference("use"))
	}
	p.need(")")
	return uses
}

func (p *parser) list() api.Node {
	first := p.need("[")
	var items []api.Node
	for !p.sees("]") {
		items = append(items, p.item())
		if !p.skip(",") {
			break
		}
	}
	p.need("]")
	return node("list", first, items...)
}

func (p *parser) item() api.Node {
	first := p.tok()
	kids := []api.Node{p.expr()}
	if p.skip("=>") {
		kids = append(kids, p.expr())
	}
	return node("item", first, kids...)
}

// parts is the node of a text with variables in it.
func parts(tok api.Tok) api.Node {
	n := node("parts", tok)
	for _, part := range tok.Parts {
		n.Kids = append(n.Kids, partNode(tok, part))
	}
	return n
}

func partNode(tok api.Tok, part api.Part) api.Node {
	variable := named("var", tok, part.Text)
	switch part.Kind {
	case api.PartText:
		return named("text", tok, part.Text)
	case api.PartInt:
		return node("index", tok, variable, numberKey(tok, part.Key))
	case api.PartKey:
		return node("index", tok, variable, named("text", tok, part.Key))
	case api.PartBy:
		return node("index", tok, variable, named("var", tok, part.Key))
	case api.PartProp:
		return named("field", tok, part.Key, variable)
	}
	return variable
}

// numberKey is the node of a key that is a number. Layer 2 lets its digits be of any size: one that 64 bits do not hold is the nearest that they do.
func numberKey(tok api.Tok, digits string) api.Node {
	// Its error can only be that of the range, beside which the number stands at its bound.
	value, _ := strconv.ParseInt(digits, 10, 64)
	n := node("int", tok)
	n.Int = int(value)
	return n
}
