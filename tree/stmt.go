package tree

import "ostler/api"

// statements are the methods that read a statement, by the sign that begins it.
func statements() map[string]func(*parser) api.Node {
	return map[string]func(*parser) api.Node{
		";":         (*parser).emptyStmt,
		"?>":        (*parser).emptyStmt,
		"{":         (*parser).block,
		"echo":      (*parser).echoStmt,
		"if":        (*parser).ifStmt,
		"while":     (*parser).whileStmt,
		"do":        (*parser).doStmt,
		"for":       (*parser).forStmt,
		"foreach":   (*parser).foreachStmt,
		"switch":    (*parser).switchStmt,
		"break":     (*parser).leaveStmt,
		"continue":  (*parser).leaveStmt,
		"return":    (*parser).returnStmt,
		"throw":     (*parser).throwStmt,
		"global":    (*parser).globalStmt,
		"static":    (*parser).staticStmt,
		"unset":     (*parser).unsetStmt,
		"const":     (*parser).constStmt,
		"try":       (*parser).tryStmt,
		"namespace": (*parser).namespaceStmt,
		"use":       (*parser).useStmt,
		"function":  (*parser).functionStmt,
		"abstract":  (*parser).classStmt,
		"final":     (*parser).classStmt,
		"class":     (*parser).classStmt,
		"interface": (*parser).interfaceStmt,
		"trait":     (*parser).traitStmt,
	}
}

// stmts reads statements up to one of some signs, and puts them behind the kids that are there.
func (p *parser) stmts(kids []api.Node, ends ...string) []api.Node {
	for !p.seesOne(ends...) {
		if !p.skip("?>") {
			kids = append(kids, p.stmt())
		}
	}
	return kids
}

func (p *parser) stmt() api.Node {
	return p.nested((*parser).anyStmt)
}

func (p *parser) anyStmt() api.Node {
	tok := p.tok()
	if tok.Kind == api.TokHtml {
		return named("html", p.take(), tok.Text)
	}
	read, found := p.statements[tok.Text]
	if tok.Kind != api.TokSign || !found {
		return p.exprStmt()
	}
	return read(p)
}

func (p *parser) exprStmt() api.Node {
	return p.ended(node("expr", p.tok(), p.expr()))
}

// ended is a node behind which what ends a statement stands.
func (p *parser) ended(n api.Node) api.Node {
	p.needEnd()
	return n
}

func (p *parser) emptyStmt() api.Node {
	return node("empty", p.take())
}

func (p *parser) block() api.Node {
	first := p.need("{")
	n := node("block", first, p.stmts(nil, "}")...)
	p.need("}")
	return n
}

func (p *parser) echoStmt() api.Node {
	first := p.take()
	kids := []api.Node{p.expr()}
	for p.skip(",") {
		kids = append(kids, p.expr())
	}
	return p.ended(node("echo", first, kids...))
}

// bracketed reads an expression in brackets.
func (p *parser) bracketed() api.Node {
	p.need("(")
	n := p.expr()
	p.need(")")
	return n
}

// optional reads an expression, unless there is a sign in its place: then it is none.
func (p *parser) optional(sign string) api.Node {
	if p.sees(sign) {
		return none()
	}
	return p.expr()
}

func (p *parser) ifStmt() api.Node {
	first := p.take()
	kids := []api.Node{p.bracketed(), p.stmt()}
	for p.skip("elseif") {
		kids = append(kids, p.bracketed(), p.stmt())
	}
	if p.skip("else") {
		kids = append(kids, p.stmt())
	}
	return node("if", first, kids...)
}

func (p *parser) whileStmt() api.Node {
	first := p.take()
	return node("while", first, p.bracketed(), p.stmt())
}

func (p *parser) doStmt() api.Node {
	first := p.take()
	body := p.stmt()
	p.need("while")
	return p.ended(node("do", first, body, p.bracketed()))
}

func (p *parser) forStmt() api.Node {
	first := p.take()
	p.need("(")
	begin := p.forPart()
	test := p.forPart()
	step := p.optional(")")
	p.need(")")
	return node("for", first, begin, test, step, p.stmt())
}

// forPart reads one of the first two parts of a for, with its `;`.
func (p *parser) forPart() api.Node {
	if p.seesEnd() {
		return p.ended(none())
	}
	return p.ended(p.expr())
}

func (p *parser) foreachStmt() api.Node {
	first := p.take()
	p.need("(")
	list := p.expr()
	p.need("as")
	key, value := none(), p.variable()
	if p.skip("=>") {
		key, value = value, p.variable()
	}
	p.need(")")
	return node("foreach", first, list, key, value, p.stmt())
}

func (p *parser) switchStmt() api.Node {
	first := p.take()
	kids := []api.Node{p.bracketed()}
	p.need("{")
	for !p.sees("}") {
		kids = append(kids, p.switchCase())
	}
	p.need("}")
	return node("switch", first, kids...)
}

func (p *parser) switchCase() api.Node {
	first := p.tok()
	var kids []api.Node
	if p.skip("case") {
		kids = append(kids, p.expr())
	} else {
		p.need("default")
	}
	p.need(":")
	return node(first.Text, first, p.stmts(kids, "case", "default", "}")...)
}

// leaveStmt reads a break or a continue.
func (p *parser) leaveStmt() api.Node {
	first := p.take()
	n := node(first.Text, first)
	n.Int = 1
	if p.tok().Kind == api.TokInt {
		n.Int = p.take().Int
	}
	return p.ended(n)
}

func (p *parser) returnStmt() api.Node {
	first := p.take()
	if p.seesEnd() {
		return p.ended(node("return", first))
	}
	return p.ended(node("return", first, p.expr()))
}

func (p *parser) throwStmt() api.Node {
	first := p.take()
	return p.ended(node("throw", first, p.expr()))
}

func (p *parser) globalStmt() api.Node {
	first := p.take()
	return p.ended(node("global", first, p.variables()...))
}

// staticStmt reads a variable's declaration; without a var behind the `static` it begins an expression.
func (p *parser) staticStmt() api.Node {
	if p.ahead(1).Kind != api.TokVar {
		return p.exprStmt()
	}
	first := p.take()
	return p.ended(named("static", first, p.take().Text, p.initial()...))
}

// initial reads the `=` and the expression of what a variable is at first, if they are there.
func (p *parser) initial() []api.Node {
	if !p.skip("=") {
		return nil
	}
	return []api.Node{p.expr()}
}

func (p *parser) unsetStmt() api.Node {
	first := p.take()
	return p.ended(node("unset", first, p.bracketedPlace()))
}

func (p *parser) constStmt() api.Node {
	return p.constant("const")
}

// constant reads a constant of a file or of a class.
func (p *parser) constant(op string) api.Node {
	first := p.take()
	word := p.needWord()
	p.need("=")
	return p.ended(named(op, first, word.Text, p.expr()))
}

func (p *parser) tryStmt() api.Node {
	first := p.take()
	kids := []api.Node{p.block()}
	for p.sees("catch") {
		kids = append(kids, p.catch())
	}
	if p.sees("finally") {
		kids = append(kids, node("finally", p.take(), p.block()))
	}
	return node("try", first, kids...)
}

func (p *parser) catch() api.Node {
	first := p.take()
	p.need("(")
	kids := p.names("|")
	word := ""
	if p.tok().Kind == api.TokVar {
		word = p.take().Text
	}
	p.need(")")
	return named("catch", first, word, append(kids, p.block())...)
}

func (p *parser) namespaceStmt() api.Node {
	first := p.take()
	return p.ended(named("namespace", first, p.name().Text))
}

func (p *parser) useStmt() api.Node {
	first := p.take()
	n := named("use", first, p.name().Text)
	if p.skip("as") {
		n.Kids = []api.Node{p.word()}
	}
	return p.ended(n)
}

// functionStmt reads a function's declaration; without a word behind the `function` it begins an expression.
func (p *parser) functionStmt() api.Node {
	if !isWord(p.ahead(1)) {
		return p.exprStmt()
	}
	first := p.take()
	word := p.take()
	return named("function", first, word.Text, append(p.params(), p.block())...)
}

func (p *parser) params() []api.Node {
	var params []api.Node
	p.need("(")
	if !p.sees(")") {
		params = append(params, p.param())
		for p.skip(",") {
			params = append(params, p.param())
		}
	}
	p.need(")")
	return params
}

func (p *parser) param() api.Node {
	n := p.varOrReference("param")
	n.Kids = p.initial()
	return n
}

// varOrReference reads a var, with or without a `&` ahead.
func (p *parser) varOrReference(op string) api.Node {
	first := p.tok()
	byReference := 0
	if p.skip("&") {
		byReference = 1
	}
	n := named(op, first, p.variable().Text)
	n.Int = byReference
	return n
}
