// Package cut is layer 1: a file's pieces: what is written as it stands, and code.
package cut

import (
	"strings"

	"ostler/api"
)

// Cut is a file's pieces, in order.
func Cut(file string) ([]api.Piece, api.Errno) {
	if len(file) > api.MaxFile {
		return nil, api.ErrLong
	}
	var pieces []api.Piece
	for at := 0; at < len(file); {
		o := nextOpening(file, at)
		if o.mark > at {
			pieces = append(pieces, api.Piece{Kind: api.PieceHtml, Text: file[at:o.mark], At: at})
		}
		if o.kind == 0 {
			break
		}
		end := codeEnd(file, o.code)
		pieces = append(pieces, api.Piece{Kind: o.kind, Text: file[o.code:end], At: o.code})
		at = end + closingLen(file[end:])
	}
	return pieces, api.OK
}

// Ended tells whether a piece's text stands at its place, and `?>` right behind it.
func Ended(file string, p api.Piece) bool {
	if p.At < 0 || p.At > len(file) {
		return false
	}
	rest, found := strings.CutPrefix(file[p.At:], p.Text)
	return found && strings.HasPrefix(rest, "?>")
}

// Line is the line of a byte, from 1 on.
func Line(file string, at int) int {
	at = min(max(at, 0), len(file))
	return 1 + strings.Count(file[:at], "\n")
}
