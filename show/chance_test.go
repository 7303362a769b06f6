package show

import (
	"math/rand"
	"slices"
	"strings"
	"testing"

	"ostler/api"
	"ostler/tree"
)

// forms are what files of chance are made of: of each head what may stand for it, the first of which ends soonest. An expression's brackets may be too many, but are never too few.
const forms = `
Stmt: ; | { Stmts } | echo Expr ; | echo Expr , Expr ; | if ( Expr ) { Stmts } elseif ( Expr ) { Stmts } else Stmt | if ( Expr ) Stmt | if ( Expr ) { Stmts } else Stmt
Stmt: while ( Expr ) Stmt | do Stmt while ( Expr ) ; | for ( ; ; ) Stmt | for ( Expr ; Expr ; Expr ) Stmt | foreach ( Expr as Var ) Stmt | foreach ( Expr as Var => Var ) Stmt
Stmt: switch ( Expr ) { Cases } | break ; | continue 2 ; | return ; | return Expr ; | throw Expr ; | global Var , Var ; | static Var ; | static Var = Expr ; | unset ( Place ) ; | const Word = Expr ;
Stmt: try { Stmts } catch ( Name | | Name Var ) { Stmts } catch ( Name ) { } finally { Stmts } | namespace Name ; | use Name ; | use Name as Word ; | function Word ( Params ) { Stmts } | ?> | ?>h'"<?php | ?>$n<?= Expr , Expr ?>
Stmt: abstract class Word extends Name implements Name , Name { Members } | final class Word { Members } | interface Word extends Name , Name { Members } | trait Word { Members } | Expr ; | Expr ; | Expr ; | Expr ; | Expr ;
Stmts: | Stmt | Stmt Stmts
Cases: | case Expr : Stmts Cases | default : Stmts Cases
Members: | const Word = Expr ; Members | public Var ; Members | public static Var = Expr ; Members | public function Word ( Params ) { Stmts } Members | public abstract static function Word ( Params ) ; Members
Members: use Name , Name ; Members | use Name { Word insteadof Name , Name ; Name :: Word as Word ; } Members
Params: | Var | Var = Expr | & Var , Var = Expr
Expr: Atom | Atom | Place Sign Expr | Var = & Var | [ Var , Var ] = Expr | include Expr | require_once Expr | In ? Expr : Expr | In ? : Expr | In ?? Expr | In Oper In | In Oper In | In Oper In Oper In
Expr: ! In | - In | clone In | ++ Place | -- Place | (int) In | (STRING) In | In instanceof Ref | Place ++ | ! Place = Expr
In: Atom | ( Expr )
Oper: + | - | * | % | . | == | !== | <=> | < | >= | && | \|\|
Sign: = | += | .= | ??=
Place: Var | Place [ Expr ] | Place -> Word | Ref :: Var
Atom: Var | Leaf | Leaf | In [ Expr ] | In -> Word | In -> Word ( Args ) | In ( Args ) | Ref :: Word | Ref :: Var | Ref :: Word ( Args ) | [ Items ] | isset ( Place ) | empty ( Expr ) | ( Closed )
Closed: new Ref | new Ref ( Args ) | exit | exit ( Expr ) | function ( Params ) { Stmts } | function ( Params ) use ( & Var , Var ) { Stmts } | fn ( Params ) => Expr | Expr
Leaf: 0 | 0x7f | 'it\'s' | '\\' | "a\n" | "$a" | "a$b[0] c$d[-7]" | "\"$a->b\x5b\\$c[k]\n" | "$a[$b]z" | Name | int
Args: | Expr | Expr , Expr
Items: | Expr | Expr => Expr , Items | Expr , Items
Var: $a | $b | $this
Word: g | K
Name: f | A | \B\c
Ref: Name | static | Var
`

// choices are what may stand for each head.
func choices() map[string][][]string {
	all := map[string][][]string{}
	for _, line := range strings.Split(strings.Trim(forms, "\n"), "\n") {
		head, rest, _ := strings.Cut(line, ":")
		for _, choice := range strings.Split(rest+" ", " | ") {
			parts := strings.Fields(choice)
			for i := range parts {
				parts[i] = strings.ReplaceAll(parts[i], `\|`, "|")
			}
			all[head] = append(all[head], parts)
		}
	}
	return all
}

// ofChance are the tokens of something that may stand for a head.
func ofChance(chance *rand.Rand, all map[string][][]string, head string, room *int) []string {
	choices, found := all[head]
	if !found {
		return []string{head}
	}
	*room--
	choice := choices[chance.Intn(len(choices))]
	if *room < 0 {
		choice = choices[0]
	}
	var toks []string
	for _, part := range choice {
		toks = append(toks, ofChance(chance, all, part, room)...)
	}
	return toks
}

// treesOfChance yields the trees of files of chance that are files.
func treesOfChance(seed int64, files int, yield func(source string, n api.Node)) {
	chance := rand.New(rand.NewSource(seed))
	all := choices()
	for range files {
		room := 3 + chance.Intn(60)
		source := open
		for room > 0 {
			source += strings.Join(ofChance(chance, all, "Stmt", &room), " ") + " "
		}
		source = strings.NewReplacer("?> ", "?><?php ", " <?php <?php", " <?php").Replace(source)
		if n, fault := tree.Parse(source); fault.Why == api.OK {
			yield(source, n)
		}
	}
}

// depth is how many nodes of a tree are within one another.
func depth(n api.Node) int {
	deepest := 0
	for _, kid := range n.Kids {
		deepest = max(deepest, depth(kid))
	}
	return 1 + deepest
}

// callsMember tells whether there is a call in a tree whose callee is a field or a class's constant.
func callsMember(n api.Node) bool {
	if n.Op == "call" && (n.Kids[0].Op == "field" || n.Kids[0].Op == "classconst") {
		return true
	}
	return slices.ContainsFunc(n.Kids, callsMember)
}

// TestP4_3_ThereAndBack: of a tree that Parse gave, Show is a text of which Parse is that tree.
func TestP4_3_ThereAndBack(t *testing.T) {
	done, members, deepest := 0, 0, 0
	ops := map[string]bool{}
	treesOfChance(1, 30000, func(source string, n api.Node) {
		text, err := Show(n)
		switch {
		case err == api.OK && tree.Same(parsed(t, text), n):
			if callsMember(n) {
				t.Fatalf("Show of %q: %q", source, text)
			}
			done++
			deepest = max(deepest, depth(n))
			addOps(n, ops)
		case err == api.ErrArg && text == "" && callsMember(n):
			members++
		case err == api.ErrArg && text == "" && depth(n) > 18:
		default:
			t.Fatalf("Show of %q: %q, %v", source, text, err)
		}
	})
	if done < 20000 || members < 20 || deepest < 18 || len(ops) < 70 {
		t.Errorf("just %d trees, %d with calls of members, %d deep, with the Ops %v", done, members, deepest, ops)
	}
}

func addOps(n api.Node, ops map[string]bool) {
	ops[n.Op] = true
	for _, kid := range n.Kids {
		addOps(kid, ops)
	}
}

// TestP4_3_Deepest: trees of 18 nodes within one another, made of one or two forms over and over.
func TestP4_3_Deepest(t *testing.T) {
	wraps := []string{`$a = E`, `$a[E] = 1`, `[$a] = E`, `include E`, `(E) ? 1 : 2`, `1 ? E : 2`, `1 ? 2 : E`, `(E) + 1`, `1 + (E)`, `1 ?? (E)`, `!(E)`, `- (E)`, `clone (E)`, `(int) (E)`, `(E) instanceof A`, `(E)[0]`, `$a[E]`, `(E)->a`, `(E)(1)`, `f(E)`, `(E)->f()`, `A::f(E)`, `new A(E)`, `[E]`, `[E => 1]`, `isset($a[E])`, `empty(E)`, `exit(E)`, `function($a = E) { }`, `function() { return E; }`, `fn() => E`}
	done := 0
	for _, first := range wraps {
		for _, second := range wraps {
			e, deep := "$a", api.Node{}
			for i := 0; ; i++ {
				e = strings.Replace([]string{first, second}[i%2], "E", e, 1)
				n, fault := tree.Parse(open + e + ";")
				if fault.Why != api.OK || depth(n) > 18 {
					break
				}
				deep = n
			}
			if callsMember(deep) {
				continue
			}
			if depth(deep) > 13 {
				done++
			}
			if text, err := Show(deep); err != api.OK || !tree.Same(parsed(t, text), deep) {
				t.Errorf("Show of %q and %q: %.300q, %v", first, second, text, err)
			}
		}
	}
	if done < 900 {
		t.Errorf("just %d trees", done)
	}
}

// TestP4_4_Again: a file that was laid out is laid out as it is.
func TestP4_4_Again(t *testing.T) {
	done := 0
	treesOfChance(2, 10000, func(source string, n api.Node) {
		text, fault := Format(source)
		if fault.Why != api.OK {
			return
		}
		done++
		if again, fault := Format(text); again != text || fault != (api.Fault{}) {
			t.Fatalf("Format of Format(%q):\n got %q, %+v\nwant %q", source, again, fault, text)
		}
	})
	if done < 5000 {
		t.Errorf("just %d files", done)
	}
}
