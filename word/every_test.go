package word

import (
	"math/rand"
	"regexp"
	"strconv"
	"strings"
	"testing"

	"ostler/api"
	"ostler/cut"
)

// tokenPatterns say the chapter's words once more: what stands between tokens, and tokens, in the order in which they are looked for.
var tokenPatterns = []struct {
	kind    string
	pattern *regexp.Regexp
}{
	{"gap", regexp.MustCompile(`(?s)^(?:[ \t\n\r]+|(?:#|//)[^\n]*|/\*.*?\*/)`)},
	{"open", regexp.MustCompile(`^/\*`)},
	{"var", regexp.MustCompile(`^\$([A-Za-z_]\w*)`)},
	{"wrongName", regexp.MustCompile(`^((?:[A-Za-z_]\w*)?(?:\\[A-Za-z_]\w*)*)\\(?:[^A-Za-z_]|\z)`)},
	{"name", regexp.MustCompile(`^\\?[A-Za-z_]\w*(?:\\[A-Za-z_]\w*)*`)},
	{"int", regexp.MustCompile(`^(?:0[xX][[:xdigit:]]+|0|[1-9][0-9]*)(\w?)`)},
	{"plain", regexp.MustCompile(`(?s)^'((?:\\.|[^\\'])*)'`)},
	{"wide", regexp.MustCompile(`(?s)^"((?:\\.|[^\\"])*)"`)},
	{"openWide", regexp.MustCompile(`(?s)^"(.*)`)},
	{"open", regexp.MustCompile(`^'`)},
	{"raw", regexp.MustCompile(`(?s)^<<<'A'\n(?:A|(.*?)\nA)\b`)},
	{"long", regexp.MustCompile(`(?s)^<<<A\n(?:A|(.*?)\nA)\b`)},
	{"open", regexp.MustCompile(`^<<<(?:A|'A')\n`)},
	{"sign", regexp.MustCompile(`^(?:<=>|===|!==|\.\.\.|\?\?=|==|!=|<=|>=|&&|\|\||\?\?|\+\+|--|\+=|-=|\*=|%=|\.=|->|=>|::|[()\[\]{};,.+\-*%<>!=?:&|])`)},
	{"none", regexp.MustCompile(`(?s)^.`)},
}

var (
	escapePattern = regexp.MustCompile(`(?s)\\(?:x[[:xdigit:]]{1,2}|[ntr\\$])|\$([A-Za-z_]\w*)(\[(?:(-?[1-9][0-9]*|0)|(\$?[A-Za-z_]\w*))\]|->([A-Za-z_]\w*)|\[)?|.`)
	plainPattern  = regexp.MustCompile(`(?s)\\['\\]|.`)
)

// partsByPattern is the parts of a wide text, or the place of a `[` that is not as told.
func partsByPattern(s string, quoted bool) ([]api.Part, int) {
	var parts []api.Part
	put := func(text string) {
		if n := len(parts); n > 0 && parts[n-1].Kind == api.PartText {
			parts[n-1].Text += text
		} else if text != "" {
			parts = append(parts, plain(text))
		}
	}
	for at := 0; at < len(s); {
		m := escapePattern.FindStringSubmatch(s[at:])
		switch {
		case quoted && strings.HasPrefix(s[at:], `\"`):
			put(`"`)
			at++
		case m[2] == "[":
			return nil, at + len(m[0]) - 1
		case m[3] != "":
			parts = append(parts, atInt(m[1], m[3]))
		case strings.HasPrefix(m[4], "$"):
			parts = append(parts, atBy(m[1], m[4][1:]))
		case m[4] != "":
			parts = append(parts, atKey(m[1], m[4]))
		case m[5] != "":
			parts = append(parts, ofObject(m[1], m[5]))
		case m[1] != "":
			parts = append(parts, bare(m[1]))
		case m[0][0] == '\\' && len(m[0]) > 1:
			put(map[byte]string{'n': "\n", 't': "\t", 'r': "\r", '\\': `\`, '$': "$"}[m[0][1]])
			if n, err := strconv.ParseUint(m[0][2:], 16, 8); m[0][1] == 'x' && err == nil {
				put(string([]byte{byte(n)}))
			}
		default:
			put(m[0])
		}
		at += len(m[0])
	}
	return parts, -1
}

// wideByPattern is the token of a wide text.
func wideByPattern(s string, quoted bool) (api.Tok, int) {
	parts, wrong := partsByPattern(s, quoted)
	switch {
	case len(parts) == 0:
		return text(""), wrong
	case len(parts) == 1 && parts[0].Kind == api.PartText:
		return text(parts[0].Text), wrong
	}
	return isParts(parts...), wrong
}

// tokensByPattern is the tokens of a code in which no name is long, and the fault, places counted from the code's first byte.
func tokensByPattern(s string) ([]api.Tok, api.Fault) {
	var toks []api.Tok
	line := 1
	for at := 0; at < len(s); {
		var kind string
		var m []string
		for _, p := range tokenPatterns {
			if m = p.pattern.FindStringSubmatch(s[at:]); m != nil {
				kind = p.kind
				break
			}
		}
		tok, wrong := api.Tok{}, -1
		switch kind {
		case "var":
			tok = isVar(m[1])
		case "wrongName":
			return nil, api.Fault{Why: api.ErrForm, At: at + len(m[1])}
		case "name":
			tok = isName(m[0])
			if strings.Contains(" "+keywords+" ", " "+strings.ToLower(m[0])+" ") {
				tok = sign(strings.ToLower(m[0]))
			}
		case "int":
			n, err := strconv.ParseInt(m[0], 0, 64)
			if err != nil || m[1] != "" {
				return nil, api.Fault{Why: api.ErrNum, At: at}
			}
			tok = isInt(int(n))
		case "plain":
			tok = text(plainPattern.ReplaceAllStringFunc(m[1], func(s string) string { return s[len(s)-1:] }))
		case "wide", "openWide":
			tok, wrong = wideByPattern(m[1], true)
			wrong += min(1, wrong+1)
		case "raw":
			tok = text(m[1])
		case "long":
			tok, wrong = wideByPattern(m[1], false)
			wrong += len("<<<A\n") * min(1, wrong+1)
		case "sign":
			tok = sign(m[0])
		case "none":
			return nil, api.Fault{Why: api.ErrForm, At: at}
		}
		switch {
		case wrong >= 0:
			return nil, api.Fault{Why: api.ErrForm, At: at + wrong}
		case kind == "open" || kind == "openWide":
			return nil, api.Fault{Why: api.ErrOpen, At: at}
		case kind != "gap":
			toks = append(toks, put(tok, at, line))
		}
		line += strings.Count(m[0], "\n")
		at += len(m[0])
	}
	return toks, api.Fault{}
}

// checkByPattern holds the tokens of a code without `?>` in it against those of the patterns.
func checkByPattern(t *testing.T, code string) {
	want, wantFault := tokensByPattern(code)
	for i := range want {
		want[i].At += len(open)
	}
	if wantFault.Why != api.OK {
		wantFault.At += len(open)
	}
	got, fault := Tokens(open + code)
	if fault != wantFault || !sameToks(got, want) {
		t.Fatalf("Tokens of code %q: %+v, %+v; want %+v, %+v", code, got, fault, want, wantFault)
	}
}

// everyText yields the texts that are made of up to so many of some parts.
func everyText(most int, parts []string, yield func(s string)) {
	yield("")
	if most == 0 {
		return
	}
	for _, part := range parts {
		everyText(most-1, parts, func(s string) { yield(part + s) })
	}
}

// TestP2_1_Every: the tokens of many short codes are what the patterns say.
func TestP2_1_Every(t *testing.T) {
	everyText(4, []string{"'", `"`, `\`, "$", "a", "0", "[", "]", "->", "/", "*", "#", "\n", " ", "<<<A\n", "A"}, func(s string) {
		if !strings.Contains(s, "?>") {
			checkByPattern(t, s)
		}
	})
	everyText(5, []string{`\`, "$a", "[", "]", "->", "x", "-", "0", "1", `\"`}, func(s string) {
		checkByPattern(t, `"`+s+`"`)
		checkByPattern(t, "<<<A\n"+s+"\nA")
	})
	everyText(4, []string{"<", "=", ">", "!", ".", "?", "&", "|", "+", "-", ":"}, func(s string) {
		if !strings.Contains(s, "?>") {
			checkByPattern(t, s)
		}
	})
	everyText(5, []string{"0", "1", "9", "x", "F", "g", "_", "."}, func(s string) {
		checkByPattern(t, s)
	})
}

// codeParts are what codes of chance are made of.
var codeParts = []string{
	"$a", "$b_1", "echo", "FOREACH", "foo", `\a\b`, `New\x`, "0", "12", "0x1F", "9223372036854775807", "'a'", `'\''`, `"x"`, `"a$b[0]\n"`, `"$a->b\x41"`, "<<<A\n$x\nA", "<<<'A'\n$x\n\nA",
	"<=>", "===", "...", "??=", "==", "->", "=>", "::", "(", ")", "[", "]", "{", "}", ";", ",", ".", "+", "-", "*", "%", "<", "!", "=", "?", ":", "&", "|", "/*a*/", "# a\n", "// b\n", "\n", " ",
}

// codeOfChance is a code of so many parts, and whether it is free of what would end it.
func codeOfChance(chance *rand.Rand, parts int) (string, bool) {
	var b strings.Builder
	for range parts {
		b.WriteString(codeParts[chance.Intn(len(codeParts))])
	}
	return b.String(), !strings.Contains(b.String(), "?>")
}

func TestP2_1_Chance(t *testing.T) {
	chance := rand.New(rand.NewSource(2))
	for range 20000 {
		if code, good := codeOfChance(chance, 1+chance.Intn(12)); good {
			checkByPattern(t, code)
		}
	}
}

// TestP2_3_Rise: each token begins behind, or at, the end of the one ahead, and their lines never fall.
func TestP2_3_Rise(t *testing.T) {
	everyText(5, []string{"<?php ", "<?=", "?>", "a", "$a", "1", "'\n'", "\"$a\"", "\n", "<<<A\n\nA", ";"}, func(file string) {
		toks, _ := Tokens(file)
		behind, line := 0, 1
		for _, tok := range toks {
			if tok.At < behind || tok.Line < line || tok.Line != cut.Line(file, tok.At) {
				t.Fatalf("Tokens(%q): %+v", file, toks)
			}
			behind, line = tok.At+tokenLen(file[tok.At:], tok), tok.Line
		}
		if behind > len(file) {
			t.Fatalf("Tokens(%q): %+v", file, toks)
		}
	})
}

// tokenLen is how many bytes a token has at least, of those that TestP2_3_Rise puts.
func tokenLen(s string, tok api.Tok) int {
	switch {
	case tok.Kind == api.TokVar:
		return 1 + len(tok.Text)
	case tok.Kind == api.TokInt:
		return 1
	case tok.Kind == api.TokText && strings.HasPrefix(s, "'"):
		return len("'\n'")
	case tok.Kind == api.TokText:
		return len("<<<A\n\nA")
	case tok.Kind == api.TokParts:
		return len(`"$a"`)
	case tok.Text == "echo":
		return 0 // of a `<?=` it has none
	}
	return len(tok.Text)
}

// TestP2_4_Blanks: blanks put between two tokens of code turn nothing but At and Line.
func TestP2_4_Blanks(t *testing.T) {
	chance := rand.New(rand.NewSource(3))
	blanks := []string{" ", "\t", "\n", "\r", "\r\n", "  \n\t"}
	done := 0
	for range 20000 {
		code, good := codeOfChance(chance, 2+chance.Intn(8))
		// A name behind `<<<` that comes to stand at its line's end begins a long text: of that the tokens are others.
		if !good || strings.Contains(strings.ReplaceAll(strings.ReplaceAll(code, "<<<A\n", ""), "<<<'A'\n", ""), "<<<") {
			continue
		}
		for _, head := range []string{open, "a<?="} {
			toks, fault := Tokens(head + code + "?>")
			if fault.Why != api.OK {
				continue
			}
			for i := 1; i < len(toks); i++ {
				if toks[i-1].Kind == api.TokHtml {
					continue
				}
				at := toks[i].At
				file := head + code + "?>"
				blank := blanks[chance.Intn(len(blanks))]
				got, fault := Tokens(file[:at] + blank + file[at:])
				if fault.Why != api.OK || !sameToks(placeless(got), placeless(toks)) {
					t.Fatalf("blank %q at %d of %q: %+v, %+v", blank, at, file, got, fault)
				}
				done++
			}
		}
	}
	if done < 10000 {
		t.Errorf("just %d blanks", done)
	}
}
