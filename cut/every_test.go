package cut

import (
	"regexp"
	"slices"
	"strings"
	"testing"

	"ostler/api"
)

// everyFile yields the files that are made of up to so many of some parts.
func everyFile(most int, parts []string, yield func(file string)) {
	yield("")
	if most == 0 {
		return
	}
	for _, part := range parts {
		everyFile(most-1, parts, func(file string) { yield(part + file) })
	}
}

// openPart, closePart and codePart say the chapter's words once more, as patterns: of long texts those of the name A alone.
var (
	openPart  = regexp.MustCompile(`(?s)^(.*?)(?:(<\?=)|(?i:<\?php)(?:\r\n|[ \t\n\r]|\z)|\z)`)
	closePart = regexp.MustCompile(`^\?>(?:\r?\n)?`)
	codePart  = regexp.MustCompile(`(?s)^(?:` + strings.Join([]string{
		`'(?:\\.|[^\\'])*(?:'|\\?\z)`,
		`"(?:\\.|[^\\"])*(?:"|\\?\z)`,
		`/\*.*?(?:\*/|\z)`,
		`(?:#|//)(?:[^\n?]|\?+[^\n?>])*`,
		`<<<(?:A|'A')\n(?:(?:.*?\n)??A\b|.*\z)`,
		`.`,
	}, "|") + `)`)
)

// codeByPattern is how many bytes the code at the beginning has.
func codeByPattern(s string) int {
	at := 0
	for at < len(s) && !strings.HasPrefix(s[at:], "?>") {
		at += len(codePart.FindString(s[at:]))
	}
	return at
}

// cutByPattern is the pieces of a file.
func cutByPattern(file string) []api.Piece {
	var pieces []api.Piece
	for at := 0; at < len(file); {
		m := openPart.FindStringSubmatch(file[at:])
		if m[1] != "" {
			pieces = append(pieces, html(m[1], at))
		}
		at += len(m[0])
		if m[0] == m[1] {
			break
		}
		text := file[at : at+codeByPattern(file[at:])]
		if m[2] != "" {
			pieces = append(pieces, echo(text, at))
		} else {
			pieces = append(pieces, code(text, at))
		}
		at += len(text)
		at += len(closePart.FindString(file[at:]))
	}
	return pieces
}

// TestP1_1_Every: the pieces of many short files are what the patterns say.
func TestP1_1_Every(t *testing.T) {
	inCode := []string{"?>", "?", "'", "\"", "\\", "/", "*", "#", "\n", "<<<A\n", "<<<'A'\n", "A", "<?="}
	everyFile(4, inCode, func(rest string) {
		checkByPattern(t, "<?="+rest)
	})
	outside := []string{"<", "?", "php", "PHP", "=", " ", "\r", "\n", ">", "a"}
	everyFile(5, outside, func(file string) {
		checkByPattern(t, file)
		checkByPattern(t, "<?php"+file)
		checkByPattern(t, "<?=1?>"+file)
	})
}

func checkByPattern(t *testing.T, file string) {
	got, err := Cut(file)
	if want := cutByPattern(file); err != api.OK || !slices.Equal(got, want) {
		t.Fatalf("Cut(%q): %v, %+v; want %+v", file, err, got, want)
	}
}

// TestP1_3_Places: each piece's Text stands in the file at its At, behind the one ahead.
func TestP1_3_Places(t *testing.T) {
	parts := []string{"<?php ", "<?=", "?>", "'", "\"", "/*", "*/", "#", "\r\n", "\n", "<<<A\n", "A", "\\"}
	everyFile(5, parts, func(file string) {
		pieces, err := Cut(file)
		if err != api.OK {
			t.Fatalf("Cut(%q): %v", file, err)
		}
		behind := 0
		for _, p := range pieces {
			if p.At < behind || !strings.HasPrefix(file[p.At:], p.Text) {
				t.Fatalf("Cut(%q): %+v", file, pieces)
			}
			if p.Kind == api.PieceHtml && p.Text == "" {
				t.Fatalf("Cut(%q): an empty text outside of code", file)
			}
			behind = p.At + len(p.Text)
			if last := behind == len(file); p.Kind != api.PieceHtml && Ended(file, p) == last {
				t.Fatalf("Cut(%q): code that is ended, or not: %+v", file, p)
			}
		}
	})
}

// TestP1_4_NoCode: a file without `<?` is one PieceHtml, or nothing, if it is empty.
func TestP1_4_NoCode(t *testing.T) {
	parts := []string{"<", "?>", "?", "'", "/*", "#", "\n", "<<<A\n", "php ", "= "}
	everyFile(5, parts, func(file string) {
		if strings.Contains(file, "<?") {
			return
		}
		var want []api.Piece
		if file != "" {
			want = []api.Piece{html(file, 0)}
		}
		if got, err := Cut(file); err != api.OK || !slices.Equal(got, want) {
			t.Fatalf("Cut(%q): %v, %+v", file, err, got)
		}
	})
	every := make([]byte, 256)
	for i := range every {
		every[i] = byte(i)
	}
	checkCuts(t, []cutCase{{string(every), []api.Piece{html(string(every), 0)}}, {"", nil}})
}
