package tree

import "ostler/api"

// isPlace tells whether a node is a place. It does not ask for a `[ ]` in it: of one behind which no assignment's sign stands post and operand tell.
func isPlace(n api.Node) bool {
	for n.Op == "index" || n.Op == "field" {
		n = n.Kids[0]
	}
	return n.Op == "var" || n.Op == "sfield"
}

// bracketedPlace reads a place in brackets.
func (p *parser) bracketedPlace() api.Node {
	bracket := p.tok()
	n := p.bracketed()
	if !isPlace(n) {
		p.fail(api.ErrPlace, bracket)
	}
	return n
}

// assignment reads an assignment from its sign on, ahead of which a node stands.
func (p *parser) assignment(left api.Node) api.Node {
	if left.Op == "list" && p.sees("=") {
		return p.spread(left)
	}
	if !isPlace(left) {
		p.fail(api.ErrPlace, p.tok())
	}
	sign := p.take()
	if sign.Text == "=" && p.sees("&") {
		return p.refer(sign, left)
	}
	return named("assign", sign, sign.Text, left, p.expr())
}

// spread reads an assignment to a list's variables, from its sign on.
func (p *parser) spread(list api.Node) api.Node {
	var kids []api.Node
	for _, item := range list.Kids {
		if len(item.Kids) == 1 && item.Kids[0].Op == "var" {
			kids = append(kids, item.Kids[0])
		}
	}
	if len(kids) == 0 || len(kids) < len(list.Kids) {
		p.fail(api.ErrPlace, p.tok())
	}
	sign := p.take()
	return node("spread", sign, append(kids, p.expr())...)
}

// refer reads a reference from its `&` on.
func (p *parser) refer(sign api.Tok, left api.Node) api.Node {
	if left.Op != "var" {
		p.fail(api.ErrPlace, p.tok())
	}
	p.take()
	return node("refer", sign, left, p.variable())
}
