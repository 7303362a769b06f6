package name

import (
	"math/rand"
	"slices"
	"strconv"
	"strings"
	"testing"

	"ostler/api"
	"ostler/tree"
)

// forms are what files of chance are made of: of each head what may stand for it, the first of which ends soonest.
const forms = `
File: Stmts | Spaced Stmts | Spaced Used Stmts Used Stmts | ; ?>h<?php Spaced Used Stmts
Spaced: namespace N ; | namespace \N\M ; | namespace Long ;
Used: use Name ; | use \A\B as B ; | use Name as Word ; | use Long as B ;
Stmt: ; | { Stmts } | echo Expr , Expr ; | if ( Expr ) { Stmts } else Stmt | Loop | Loop | Loop | Leave | Leave | return Expr ; | throw Expr ; | global $a , Var ; | static Var ; | static $a = Fixed ; | unset ( Place ) ; | const Word = Expr ;
Stmt: try { Stmts } catch ( Name | | Name Var ) { Stmts } finally { Stmts } | Rare | function Word ( Params ) { Stmts } | function Word ( $a , &$b ) { Stmts } | Class | Class | Expr ; | Expr ; | Expr ; | ?>h<?php | const X = Expr ;
Rare: Used | ; | ; | ; | namespace N ;
Stmts: | Stmt | Stmt Stmts | Stmt Stmts
Loop: while ( Expr ) Stmt | do Stmt while ( Expr ) ; | for ( Expr ; Expr ; Expr ) Stmt | foreach ( Expr as $a ) Stmt | foreach ( Expr as $a => Var ) Stmt | switch ( Expr ) { case Expr : Leave Stmts default : Stmts }
Leave: ; | while ( 1 ) { break ; } | break ; | continue 1 ; | continue 2 ; | break 0 ; | while ( 1 ) Leave
Class: class Word { Members } | abstract class Word extends Name implements Name , Name { Members } | interface Word extends Name { Faces } | trait Word { Members }
Members: | Member Members
Member: const Word = Fixed ; | public Var ; | public static $p = Fixed ; | public function m ( Params ) { Stmts } | public final function m ( Params ) { Stmts } | public abstract static function m ( Params ) ; | use Name , Name ; | use Name { m insteadof Name ; Name :: m as Word ; m as true ; } | public Odd
Odd: function m ( ) { } | $a | function m ( ) ; | abstract function m ( ) { } | $a = Expr ;
Faces: | Face Faces
Face: const Word = Fixed ; | public function m ( Params ) ; | public static function n ( $a ) ; | public Odd
Params: | $a | $a , &$b = Fixed | $a , Param , $c | Param , Param
Param: $d | Var | &Var = Fixed | $e = Expr
Fixed: Name | 1 | - Fixed | [ Name => Fixed , Fixed ] | Name :: X | ! Fixed | 't' . Fixed | Name | self :: X | Name | ( Expr )
Expr: Atom | Atom | Atom | Place = Expr | Place .= Expr | $a = & Var | [ Var , $b ] = Expr | include Expr | In ? Expr : Expr | In + In | In ?? Expr | ! In | clone In | ++ Place | Place -- | (int) In | In instanceof Ref
In: Name | ( Expr ) | Atom
Place: $a | Var | Place [ Expr ] | Place -> p | Ref :: $p
Atom: Name | Var | 1 | 't' | "$this[0]$a" | Name ( Expr ) | Name ( ) | Name | In [ Expr ] | In -> m ( Expr ) | In ( Expr ) | Ref :: X | Ref :: $p | Ref :: m ( Expr ) | [ Expr , Expr => Expr ] | isset ( Place ) | empty ( Expr ) | ( Made )
Made: new Ref | new Ref ( Expr , Expr ) | exit ( Expr ) | function ( Params ) { Stmts } | function ( $a ) use ( Use ) { Stmts } | fn ( Params ) => Expr | function ( ) { Stmts }
Use: $c | &$b | $c , &$d | Var | $b , Var
Var: $b | $c | $a | $A | $a | $b | $this
Word: f | g | A | B | C | self | true | D1 | D2 | D3 | D4 | D5 | D6
Name: f | g | A | B | C | N | Word | Word | A\B | B\A | \B | \A\f | B\C\D | TRUE | null | \False | True\A | self | parent | self\B | Rarely
Rarely: f | A | B | B\Long | Long
Long: nnnnnnnnnnnnnnnnnnnnnnnnnnnnnn | nnnnnnnnnnnnnnnnnnnnnnnnnnnnnnnnnnnnnnnnnnnnnnnnnnnnnnnnnnnn\mm | ooooooooooooooooooooooooooooooooooooooooooooooo
Ref: Name | static | $a | Name
`

// choices are what may stand for each head.
func choices() map[string][][]string {
	all := map[string][][]string{}
	for _, line := range strings.Split(strings.Trim(forms, "\n"), "\n") {
		head, rest, _ := strings.Cut(line, ":")
		for _, choice := range strings.Split(strings.ReplaceAll(rest, "| |", "||")+" ", " | ") {
			all[head] = append(all[head], strings.Fields(strings.ReplaceAll(choice, "||", "|")))
		}
	}
	return all
}

// ofChance are the tokens of something that may stand for a head.
func ofChance(chance *rand.Rand, all map[string][][]string, head string, room *int) []string {
	choices, found := all[head]
	if !found {
		if word, found := strings.CutSuffix(head, `\Long`); found {
			return []string{word + `\` + ofChance(chance, all, "Long", room)[0]}
		}
		if word, found := strings.CutPrefix(head, "&"); found && word != "" {
			return append([]string{"&"}, ofChance(chance, all, word, room)...)
		}
		return []string{head}
	}
	*room--
	choice := choices[chance.Intn(len(choices))]
	if *room < 0 {
		choice = choices[0]
	}
	var toks []string
	for _, part := range choice {
		toks = append(toks, ofChance(chance, all, part, room)...)
	}
	return toks
}

// treesOfChance yields the trees of files of chance, whose tokens stand on many lines.
func treesOfChance(t *testing.T, seed int64, files int, yield func(source string, n api.Node)) {
	t.Helper()
	chance := rand.New(rand.NewSource(seed))
	all := choices()
	refused := 0
	for range files {
		room := 3 + chance.Intn(60)
		source := open
		for _, tok := range ofChance(chance, all, "File", &room) {
			source += tok + []string{" ", " ", "\n"}[chance.Intn(3)]
		}
		n, fault := tree.Parse(source)
		if fault.Why != api.OK {
			refused++
			continue
		}
		yield(source, n)
	}
	if refused > files/10 {
		t.Fatalf("%d of %d files are none", refused, files)
	}
}

// TestP5_2_Chance: trees of files by chance, held against the chapter read once more.
func TestP5_2_Chance(t *testing.T) {
	faults := map[api.Errno]int{}
	treesOfChance(t, 1, 40000, func(source string, n api.Node) {
		want, wantFault := told(n)
		got, fault := Tell(n)
		if fault != wantFault || !equal(got, want) {
			t.Fatalf("Tell of %q:\n got %q, %+v\nwant %q, %+v", source, names(got), fault, names(want), wantFault)
		}
		faults[fault.Why]++
	})
	for _, why := range []api.Errno{api.OK, api.ErrArg, api.ErrLong, api.ErrThere, api.ErrClash, api.ErrLoop} {
		if faults[why] < 200 {
			t.Errorf("too few of a kind: %v", faults)
		}
	}
}

// TestP5_4_Anywhere: each name of a told tree means what it says, wherever it stands: written with a backslash ahead it is the same in another namespace.
func TestP5_4_Anywhere(t *testing.T) {
	done := 0
	treesOfChance(t, 2, 10000, func(source string, n api.Node) {
		told, fault := Tell(n)
		if fault.Why != api.OK {
			return
		}
		again, fault := Tell(elsewhere(told, api.Node{}, 0))
		if fault.Why == api.ErrLong {
			return
		}
		done++
		got, want := nameNodes(again), nameNodes(told)
		if fault.Why != api.OK || !slices.Equal(got, want) {
			t.Fatalf("of %q:\n got %q, %+v\nwant %q", source, got, fault, want)
		}
	})
	if done < 5000 {
		t.Errorf("just %d", done)
	}
}

// elsewhere is a tree in another namespace, with a backslash ahead of each name that is one of something.
func elsewhere(n, parent api.Node, at int) api.Node {
	switch {
	case n.Op == "namespace":
		n.Text = "Z"
	case n.Op == "name" && parent.Op != "use" && (parent.Op != "as" || at == 0):
		n.Text, n.Int = `\`+n.Text, 0
	}
	kids := []api.Node{}
	for i, kid := range n.Kids {
		kids = append(kids, elsewhere(kid, n, i))
	}
	n.Kids = kids
	return n
}

// nameNodes are the texts of the name nodes of a tree.
func nameNodes(n api.Node) []string {
	var all []string
	if n.Op == "name" {
		all = append(all, n.Text)
	}
	for _, kid := range n.Kids {
		all = append(all, nameNodes(kid)...)
	}
	return all
}

// ops are the Ops that trees have, and some that they have not.
const ops = "file block empty expr html echo if while do for foreach switch case default break continue return throw global static unset const try catch finally namespace use function param class parents faces cconst prop method traits insteadof as assign refer spread include cond bin not minus clone pre post cast is index field call mcall scall new sfield classconst var int text name parts list item isset isempty exit closure uses fn none x"

// wildTree is a tree of any Ops, texts, numbers and Kids.
func wildTree(chance *rand.Rand, room *int) api.Node {
	all := append(strings.Fields(ops), "")
	texts := []string{"", "this", "A", `\`, `\A`, `A\`, `\\`, `A\B`, "true", "self", "\xff", strings.Repeat("x", 100)}
	n := api.Node{Op: all[chance.Intn(len(all))], Text: texts[chance.Intn(len(texts))], Int: chance.Intn(10) - 2, Line: chance.Intn(9) - 1}
	for *room > 0 && chance.Intn(4) > 0 {
		*room--
		n.Kids = append(n.Kids, wildTree(chance, room))
	}
	return n
}

// TestR1_Wild: of trees that no file has there is an answer, too, and beside a fault no tree.
func TestR1_Wild(t *testing.T) {
	chance := rand.New(rand.NewSource(3))
	for range 50000 {
		room := chance.Intn(30)
		n := wildTree(chance, &room)
		if told, fault := Tell(n); fault.Why != api.OK && !equal(told, api.Node{}) || fault.Why == api.OK && fault.At != 0 {
			t.Fatalf("Tell(%+v): %+v, %+v", n, told, fault)
		}
	}
	for _, op := range strings.Fields(ops) {
		Tell(api.Node{Op: op})
		for _, kid := range strings.Fields(ops) {
			Tell(api.Node{Op: op, Kids: []api.Node{{Op: kid}}})
			Tell(api.Node{Op: "file", Kids: []api.Node{{Op: op, Kids: []api.Node{{Op: kid}, {Op: kid}}}}})
		}
	}
}

// TestR1_Shared: trees of more nodes than there can be end, too.
func TestR1_Shared(t *testing.T) {
	n := api.Node{Op: "block"}
	for range 100 {
		n = api.Node{Op: "block", Kids: []api.Node{n, n}}
	}
	if told, fault := Tell(api.Node{Op: "file", Kids: []api.Node{n}}); fault.Why == api.OK || !equal(told, api.Node{}) {
		t.Errorf("%+v, %+v", told, fault)
	}
	kids := make([]api.Node, 1)
	kids[0] = api.Node{Op: "block", Kids: kids}
	if _, fault := Tell(kids[0]); fault.Why == api.OK {
		t.Errorf("%+v", fault)
	}
	deep := api.Node{Op: "int"}
	for range 1 << 16 {
		deep = api.Node{Op: "minus", Kids: []api.Node{deep}}
	}
	Tell(api.Node{Op: "static", Kids: []api.Node{deep}})
}

// TestP5_2_Big: of a file as big as one may be the tree is told, however many nodes and names it has.
func TestP5_2_Big(t *testing.T) {
	for _, c := range []struct{ ahead, part, behind string }{
		{"", ";", ""}, {"", "a;", ""}, {"", "for(;;);", ""}, {"", "f();", ""}, {"", "[[],[]];", ""}, {"", "1?:1;", ""}, {"", "{}", ""}, {"1", "+1", ";"}, {"$a", "[]", "=1;"}, {"f", "()", ";"}, {"echo 1", ",a", ";"}, {"namespace N;use A\\B;", "B;", ""},
	} {
		count := (api.MaxFile - len(open+c.ahead+c.behind)) / len(c.part)
		n := parsed(t, open+c.ahead+strings.Repeat(c.part, count)+c.behind)
		told, fault := Tell(n)
		if fault != (api.Fault{}) || tree.Count(told) != tree.Count(n) {
			t.Errorf("%q, %d times: %+v", c.part, count, fault)
		}
		if tree.Count(n) > maxNodes/2 {
			t.Errorf("%q: %d nodes", c.part, tree.Count(n))
		}
	}
	uses, params := "", "function f("
	for i := range 5000 {
		uses += "use a" + strconv.Itoa(i) + ";"
		params += "$a" + strconv.Itoa(i) + ","
	}
	checkNames(t, uses+`new a77\B;`, `a77\B`)
	checkFault(t, uses+"\nuse a4999;", api.ErrThere, 3)
	checkGood(t, params+"$b){}")
	checkFault(t, params+"\n$a0){}", api.ErrClash, 3)
}
