package tree

import (
	"slices"
	"strings"

	"ostler/api"
)

// fileEnd is the text of the sign that stands for the file's end: no other sign is empty.
const fileEnd = ""

// parser reads tokens, one behind the other. Its methods begin at the first token of what they read, and stop behind its last one.
type parser struct {
	toks       []api.Tok
	next       int
	deep       int
	statements map[string]func(*parser) api.Node
}

// gaveUp is what a parser panics with at a wrong token.
type gaveUp struct {
	fault api.Fault
}

// parse is the tree of a file's tokens.
func parse(toks []api.Tok, size int) (root api.Node, fault api.Fault) {
	p := &parser{
		toks:       append(toks, api.Tok{Kind: api.TokSign, Text: fileEnd, At: size}),
		statements: statements(),
	}
	defer func() {
		thrown := recover()
		if thrown == nil {
			return
		}
		gone, ok := thrown.(gaveUp)
		if !ok {
			panic(thrown)
		}
		root, fault = api.Node{}, gone.fault
	}()
	return api.Node{Op: "file", Kids: p.stmts(nil, fileEnd), Line: 1}, api.Fault{}
}

// fail gives up at a token.
func (p *parser) fail(why api.Errno, tok api.Tok) {
	panic(gaveUp{api.Fault{Why: why, At: tok.At}})
}

// nested reads what counts as one more within one another.
func (p *parser) nested(read func(*parser) api.Node) api.Node {
	if p.deep == api.MaxDeep {
		p.fail(api.ErrDeep, p.tok())
	}
	p.deep++
	n := read(p)
	p.deep--
	return n
}

// tok is the token that is read next.
func (p *parser) tok() api.Tok {
	return p.ahead(0)
}

// ahead is the token that is read behind so many others; behind the last one the file's end.
func (p *parser) ahead(n int) api.Tok {
	return p.toks[min(p.next+n, len(p.toks)-1)]
}

func (p *parser) take() api.Tok {
	tok := p.tok()
	p.next++
	return tok
}

func isSign(tok api.Tok, text string) bool {
	return tok.Kind == api.TokSign && tok.Text == text
}

// isWord tells whether a token is a name without `\`.
func isWord(tok api.Tok) bool {
	return tok.Kind == api.TokName && !strings.Contains(tok.Text, `\`)
}

func (p *parser) sees(sign string) bool {
	return isSign(p.tok(), sign)
}

func (p *parser) seesOne(signs ...string) bool {
	tok := p.tok()
	return tok.Kind == api.TokSign && slices.Contains(signs, tok.Text)
}

// skip takes a sign, if it is next; whether it was.
func (p *parser) skip(sign string) bool {
	if !p.sees(sign) {
		return false
	}
	p.take()
	return true
}

func (p *parser) need(sign string) api.Tok {
	if !p.sees(sign) {
		p.fail(api.ErrTok, p.tok())
	}
	return p.take()
}

func (p *parser) needKind(kind int) api.Tok {
	if p.tok().Kind != kind {
		p.fail(api.ErrTok, p.tok())
	}
	return p.take()
}

func (p *parser) needWord() api.Tok {
	if !isWord(p.tok()) {
		p.fail(api.ErrTok, p.tok())
	}
	return p.take()
}

// needEnd takes what ends a statement or a member.
func (p *parser) needEnd() {
	if !p.seesEnd() {
		p.fail(api.ErrTok, p.tok())
	}
	p.take()
}

func (p *parser) seesEnd() bool {
	return p.seesOne(";", "?>")
}
