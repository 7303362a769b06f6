package tree

import (
	"math/rand"
	"slices"
	"strings"
	"testing"

	"ostler/api"
	"ostler/word"
)

// vocabulary are tokens that may come anywhere.
var vocabulary = append(strings.Fields(`$a $b 1 't' "$a" f \A\b g K
	abstract and as break case catch class clone const continue default do echo else elseif empty extends final finally fn for foreach function global if implements include insteadof instanceof interface isset namespace new or public return static switch throw trait try unset use while
	<=> === ... ??= == != <= && || ?? ++ -- += .= -> => :: ( ) [ ] { } ; , . + - * % < > ! = ? : & |`), "?><?php ", "?>h<?php ")

// written is a file of tokens.
func written(toks []string) string {
	return open + strings.Join(toks, " ")
}

// turned is tokens of which one is another one, has another one ahead, or is gone.
func turned(chance *rand.Rand, toks []string) []string {
	at := chance.Intn(len(toks) + 1)
	tok := vocabulary[chance.Intn(len(vocabulary))]
	switch chance.Intn(3) {
	case 0:
		return slices.Concat(toks[:at], []string{tok}, toks[at:])
	case 1:
		return slices.Concat(toks[:at], []string{tok}, toks[min(at+1, len(toks)):])
	}
	return slices.Concat(toks[:at], toks[min(at+1, len(toks)):])
}

// filesOfChance yields tokens of files: many that are files of the grammar, and many that are not.
func filesOfChance(seed int64, files int, yield func(chance *rand.Rand, toks []string)) {
	chance := rand.New(rand.NewSource(seed))
	g := readGrammar(grammarText)
	for range files {
		room := 5 + chance.Intn(60)
		toks := g.ofChance(chance, "File", &room)
		if len(toks) == 0 || len(toks) > 60 {
			continue
		}
		yield(chance, toks)
		for range 3 {
			toks = turned(chance, toks)
			yield(chance, toks)
		}
	}
}

// checkByGrammar holds the fault of a file against the grammar: what is no file of it is told at the first token with which none goes on, if nothing else is told ahead of that.
func checkByGrammar(t *testing.T, g grammar, file string) api.Errno {
	t.Helper()
	toks, fault := word.Tokens(file)
	if fault.Why != api.OK {
		t.Fatalf("%q: %+v", file, fault)
	}
	wrong, good := g.firstWrong(toks)
	at := len(file)
	if wrong < len(toks) {
		at = toks[wrong].At
	}
	n, fault := Parse(file)
	switch {
	case fault.Why == api.OK && good && n.Op == "file":
	case fault.Why == api.ErrTok && !good && fault.At == at:
	case (fault.Why == api.ErrPlace || fault.Why == api.ErrDeep) && fault.At <= at:
	default:
		t.Errorf("Parse(%q): %+v; the grammar: %v, %d", file, fault, good, at)
	}
	return fault.Why
}

func TestP3_1_Grammar(t *testing.T) {
	g := readGrammar(grammarText)
	count := map[api.Errno]int{}
	filesOfChance(1, 1500, func(chance *rand.Rand, toks []string) {
		count[checkByGrammar(t, g, written(toks))]++
	})
	if count[api.OK] < 500 || count[api.ErrTok] < 1000 || count[api.ErrPlace] < 100 {
		t.Errorf("too few of a kind: %v", count)
	}
}

// TestP3_3_Behind: what stands behind the first wrong token turns nothing of the fault.
func TestP3_3_Behind(t *testing.T) {
	done := map[api.Errno]int{}
	filesOfChance(2, 3000, func(chance *rand.Rand, toks []string) {
		_, fault := Parse(written(toks))
		last := wrongOne(toks, fault)
		if fault.Why == api.OK || last == len(toks) || toldLate(toks[last]) && fault.Why == api.ErrPlace {
			return
		}
		done[fault.Why]++
		for _, n := range []int{0, 1, 2, 9} {
			other := slices.Clone(toks[:last+1])
			for range n {
				other = append(other, vocabulary[chance.Intn(len(vocabulary))])
			}
			if _, got := Parse(written(other)); got != fault {
				t.Fatalf("%q: %+v; %q: %+v", written(toks), fault, written(other), got)
			}
		}
	})
	if done[api.ErrTok] < 2000 || done[api.ErrPlace] < 200 {
		t.Errorf("just %v", done)
	}
	deep := open + strings.Repeat("{", 65)
	for _, behind := range []string{"", "}", ")", "1", strings.Repeat("}", 65)} {
		checkFault(t, deep+behind, api.ErrDeep, len(deep)-1)
	}
}

// wrongOne is the number of the token that is at a fault.
func wrongOne(toks []string, fault api.Fault) int {
	for i := range toks {
		if len(written(toks[:i+1])) > fault.At {
			return i
		}
	}
	return len(toks)
}

// toldLate tells whether a token may be told of behind others that were read.
func toldLate(tok string) bool {
	return tok == "++" || tok == "--" || tok == "("
}

// TestP3_4_Blanks: blanks and comments turn nothing but lines.
func TestP3_4_Blanks(t *testing.T) {
	gaps := []string{" ", "\n", "\t", "\r\n", "/**/", "/* ' \n */", "# \"\n", "// a\n", " \n\n ", " /*?>*/ "}
	done := map[api.Errno]int{}
	filesOfChance(3, 3000, func(chance *rand.Rand, toks []string) {
		n, fault := Parse(written(toks))
		file := open
		at := []int{}
		for _, tok := range toks {
			file += gaps[chance.Intn(len(gaps))]
			at = append(at, len(file))
			file += tok
		}
		at = append(at, len(file))
		other, otherFault := Parse(file)
		if !Same(n, other) || fault.Why != otherFault.Why {
			t.Fatalf("%q: %+v; %q: %+v", written(toks), fault, file, otherFault)
		}
		if fault.Why != api.OK {
			if last := wrongOne(toks, fault); wrongAt(toks, fault, last) != otherFault.At-at[last] {
				t.Fatalf("%q: %+v; %q: %+v", written(toks), fault, file, otherFault)
			}
		}
		done[fault.Why]++
	})
	if done[api.OK] < 1000 || done[api.ErrTok] < 1000 || done[api.ErrPlace] < 100 {
		t.Errorf("just %v", done)
	}
}

// wrongAt is how many bytes a fault is behind the first byte of what is written of its token: a `?>h<?php` is two.
func wrongAt(toks []string, fault api.Fault, last int) int {
	if last == len(toks) {
		return 0
	}
	return fault.At - len(written(toks[:last+1])) + len(toks[last])
}
