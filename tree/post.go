package tree

import "ostler/api"

// post reads an atom and the steps behind it; whether a `[ ]` is one of these.
func (p *parser) post() (api.Node, bool) {
	n := p.atom()
	open := false
	for p.tok().Kind == api.TokSign {
		switch p.tok().Text {
		case "[":
			n = p.index(n)
			open = open || n.Kids[1].Op == "none"
		case "->":
			n = p.ofObject(n)
		case "(":
			sign := p.tok()
			n = node("call", sign, p.args(n)...)
		case "++", "--":
			if open || !isPlace(n) {
				p.fail(api.ErrPlace, p.tok())
			}
			sign := p.take()
			n = named("post", sign, sign.Text, n)
		default:
			return n, open
		}
	}
	return n, open
}

// index reads the step to an item.
func (p *parser) index(base api.Node) api.Node {
	sign := p.take()
	key := p.optional("]")
	p.need("]")
	return node("index", sign, base, key)
}

// ofObject reads the step to a property or a method.
func (p *parser) ofObject(base api.Node) api.Node {
	sign := p.take()
	word := p.needWord()
	if p.sees("(") {
		return named("mcall", sign, word.Text, p.args(base)...)
	}
	return named("field", sign, word.Text, base)
}

// args reads arguments, and puts them behind what they are handed to.
func (p *parser) args(callee api.Node) []api.Node {
	kids := []api.Node{callee}
	p.need("(")
	if !p.sees(")") {
		kids = append(kids, p.expr())
		for p.skip(",") {
			kids = append(kids, p.expr())
		}
	}
	p.need(")")
	return kids
}

// ref reads what means a class.
func (p *parser) ref() api.Node {
	tok := p.tok()
	switch {
	case tok.Kind == api.TokVar:
		return p.variable()
	case p.skip("static"):
		return nameNode(tok)
	}
	return p.name()
}

// ofClass reads what stands behind what means a class, from the `::` on.
func (p *parser) ofClass(ref api.Node) api.Node {
	sign := p.need("::")
	if p.tok().Kind == api.TokVar {
		return named("sfield", sign, p.take().Text, ref)
	}
	word := p.needWord()
	if p.sees("(") {
		return named("scall", sign, word.Text, p.args(ref)...)
	}
	return named("classconst", sign, word.Text, ref)
}
