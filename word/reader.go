package word

import (
	"strings"

	"ostler/api"
	"ostler/cut"
)

// reader puts a file's tokens together. Lines are counted up to the byte seen, so that no byte is counted twice.
type reader struct {
	file string
	toks []api.Tok
	seen int
	line int
}

// add puts a token at a byte of the file.
func (r *reader) add(tok api.Tok, at int) {
	r.line += cut.Line(r.file[r.seen:at], at-r.seen) - 1
	r.seen = at
	tok.At = at
	tok.Line = r.line
	r.toks = append(r.toks, tok)
}

// piece puts a piece's tokens.
func (r *reader) piece(p api.Piece) api.Fault {
	if p.Kind == api.PieceHtml {
		r.add(api.Tok{Kind: api.TokHtml, Text: p.Text}, p.At)
		return api.Fault{}
	}
	if p.Kind == api.PieceEcho {
		r.add(sign("echo"), p.At)
	}
	if fault := r.code(p); fault.Why != api.OK {
		return fault
	}
	if cut.Ended(r.file, p) {
		r.add(sign("?>"), p.At+len(p.Text))
	}
	return api.Fault{}
}

// code puts the tokens of a piece's text.
func (r *reader) code(p api.Piece) api.Fault {
	rest := p.Text
	for {
		n, fault := gapLen(rest)
		rest = rest[n:]
		if rest == "" && fault.Why == api.OK {
			return fault
		}
		at := p.At + len(p.Text) - len(rest)
		var tok api.Tok
		if fault.Why == api.OK {
			tok, n, fault = token(rest)
		}
		if fault.Why != api.OK {
			return api.Fault{Why: fault.Why, At: at + fault.At}
		}
		r.add(tok, at)
		rest = rest[n:]
	}
}

// gapLen is how many bytes of blanks, comments and remarks there are at the beginning; up to a comment that does not end, with the fault behind them.
func gapLen(s string) (int, api.Fault) {
	at := 0
	for at < len(s) {
		rest := s[at:]
		n := blankLen(rest)
		if strings.HasPrefix(rest, "#") || strings.HasPrefix(rest, "//") {
			n = lineLen(rest)
		}
		if strings.HasPrefix(rest, "/*") {
			n = commentLen(rest)
			if n == 0 {
				return at, api.Fault{Why: api.ErrOpen}
			}
		}
		if n == 0 {
			break
		}
		at += n
	}
	return at, api.Fault{}
}

func blankLen(s string) int {
	for at, r := range s {
		if r != ' ' && r != '\t' && r != '\n' && r != '\r' {
			return at
		}
	}
	return len(s)
}

// lineLen is how many bytes stand ahead of the line's end.
func lineLen(s string) int {
	line, _, _ := strings.Cut(s, "\n")
	return len(line)
}

// commentLen is how many bytes the comment at the beginning has; 0, if it does not end.
func commentLen(s string) int {
	const mark = "/*"
	inside, _, found := strings.Cut(s[len(mark):], "*/")
	if !found {
		return 0
	}
	return len(mark) + len(inside) + len("*/")
}
