package tree

import (
	"strings"

	"ostler/api"
)

// What the Int of a class is made of.
const (
	classAbstract  = 1
	classFinal     = 2
	classInterface = 4
	classTrait     = 8
)

// What the Int of a prop and a method is made of.
const (
	memberStatic   = 1
	memberAbstract = 2
	memberFinal    = 4
)

func (p *parser) classStmt() api.Node {
	first := p.tok()
	kind := p.oneOf("abstract", classAbstract, "final", classFinal)
	p.need("class")
	word := p.needWord()
	var parents, faces []api.Node
	if p.skip("extends") {
		parents = append(parents, p.name())
	}
	if p.skip("implements") {
		faces = p.names(",")
	}
	return p.members(first, word, kind, parents, faces)
}

func (p *parser) interfaceStmt() api.Node {
	first := p.take()
	word := p.needWord()
	var parents []api.Node
	if p.skip("extends") {
		parents = p.names(",")
	}
	return p.members(first, word, classInterface, parents, nil)
}

func (p *parser) traitStmt() api.Node {
	first := p.take()
	return p.members(first, p.needWord(), classTrait, nil, nil)
}

// oneOf takes one of two signs, if one is next, and is what that counts.
func (p *parser) oneOf(sign string, counts int, other string, otherCounts int) int {
	switch {
	case p.skip(sign):
		return counts
	case p.skip(other):
		return otherCounts
	}
	return 0
}

// members reads a class's members, which end it.
func (p *parser) members(first, word api.Tok, kind int, parents, faces []api.Node) api.Node {
	kids := []api.Node{{Op: "parents", Kids: parents}, {Op: "faces", Kids: faces}}
	p.need("{")
	for !p.sees("}") {
		kids = append(kids, p.member())
	}
	p.need("}")
	n := named("class", first, word.Text, kids...)
	n.Int = kind
	return n
}

func (p *parser) member() api.Node {
	switch {
	case p.sees("const"):
		return p.constant("cconst")
	case p.sees("use"):
		return p.traits()
	}
	first := p.need("public")
	kind := p.oneOf("abstract", memberAbstract, "final", memberFinal)
	free := kind == 0
	if p.skip("static") {
		kind += memberStatic
	}
	if free && p.tok().Kind == api.TokVar {
		return p.prop(first, kind)
	}
	return p.method(first, kind)
}

func (p *parser) prop(first api.Tok, kind int) api.Node {
	n := named("prop", first, p.take().Text, p.initial()...)
	n.Int = kind
	return p.ended(n)
}

func (p *parser) method(first api.Tok, kind int) api.Node {
	p.need("function")
	n := named("method", first, p.needWord().Text, p.params()...)
	n.Int = kind
	if p.seesEnd() {
		return p.ended(n)
	}
	n.Kids = append(n.Kids, p.block())
	return n
}

func (p *parser) traits() api.Node {
	first := p.take()
	kids := p.names(",")
	if p.seesEnd() {
		return p.ended(node("traits", first, kids...))
	}
	p.need("{")
	for !p.sees("}") {
		kids = append(kids, p.rule())
	}
	p.need("}")
	return node("traits", first, kids...)
}

// rule reads a rule of a use of traits.
func (p *parser) rule() api.Node {
	first := p.needKind(api.TokName)
	trait, method := none(), first
	if p.skip("::") {
		trait, method = nameNode(first), p.needWord()
	} else if strings.Contains(first.Text, `\`) {
		// Such a name may be a trait's, so it is what stands behind it that is wrong.
		p.fail(api.ErrTok, p.tok())
	}
	if p.skip("insteadof") {
		kids := append([]api.Node{trait}, p.names(",")...)
		return p.ended(named("insteadof", first, method.Text, kids...))
	}
	p.need("as")
	return p.ended(named("as", first, method.Text, trait, p.word()))
}
