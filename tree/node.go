package tree

import "ostler/api"

// node is a node on a token's line.
func node(op string, tok api.Tok, kids ...api.Node) api.Node {
	return named(op, tok, "", kids...)
}

// named is a node with a text, on a token's line.
func named(op string, tok api.Tok, text string, kids ...api.Node) api.Node {
	return api.Node{Op: op, Text: text, Kids: kids, Line: tok.Line}
}

// none stands where something is left out.
func none() api.Node {
	return api.Node{Op: "none"}
}

// variable reads a var.
func (p *parser) variable() api.Node {
	tok := p.needKind(api.TokVar)
	return named("var", tok, tok.Text)
}

// variables reads one var, or several with `,` between.
func (p *parser) variables() []api.Node {
	vars := []api.Node{p.variable()}
	for p.skip(",") {
		vars = append(vars, p.variable())
	}
	return vars
}

// name reads a name.
func (p *parser) name() api.Node {
	return nameNode(p.needKind(api.TokName))
}

// word reads a name without `\`.
func (p *parser) word() api.Node {
	return nameNode(p.needWord())
}

func nameNode(tok api.Tok) api.Node {
	return named("name", tok, tok.Text)
}

// names reads one name, or several with a sign between.
func (p *parser) names(between string) []api.Node {
	names := []api.Node{p.name()}
	for p.skip(between) {
		names = append(names, p.name())
	}
	return names
}
