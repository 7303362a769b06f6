package name

import (
	"strings"
	"testing"

	"ostler/api"
	"ostler/tree"
)

const open = "<?php "

func parsed(t *testing.T, source string) api.Node {
	t.Helper()
	n, fault := tree.Parse(source)
	if fault != (api.Fault{}) {
		t.Fatalf("Parse(%q): %+v", source, fault)
	}
	return n
}

// names are the names of a tree that may be told, in the order of its nodes: of each statement that declares one with its Op ahead, of each name node with a `?` behind it, if its Int is 1.
func names(n api.Node) []string {
	var all []string
	switch n.Op {
	case "function", "class", "const":
		all = append(all, n.Op+":"+n.Text)
	case "name":
		all = append(all, n.Text+strings.Repeat("?", n.Int))
	}
	for _, kid := range n.Kids {
		all = append(all, names(kid)...)
	}
	return all
}

// checkNames holds the names of code's told tree against those that are told.
func checkNames(t *testing.T, code, want string) {
	t.Helper()
	told, fault := Tell(parsed(t, open+code))
	if got := strings.Join(names(told), " "); got != want || fault != (api.Fault{}) {
		t.Errorf("Tell(%q):\n got %q, %+v\nwant %q", code, got, fault, want)
	}
}

// checkFault holds the fault of code against what is told. The first line of the code is line 2.
func checkFault(t *testing.T, code string, why api.Errno, line int) {
	t.Helper()
	told, fault := Tell(parsed(t, open+"\n"+code))
	if fault != (api.Fault{Why: why, At: line}) {
		t.Errorf("Tell(%q): %+v, not %+v", code, fault, api.Fault{Why: why, At: line})
	}
	if fault.Why != api.OK && !tree.Same(told, api.Node{}) {
		t.Errorf("Tell(%q): with a fault %+v", code, told)
	}
}

// checkGood tells that code keeps the rules.
func checkGood(t *testing.T, code string) {
	t.Helper()
	checkFault(t, code, api.OK, 0)
}

// TestP5_1_Means: what a class's name means.
func TestP5_1_Means(t *testing.T) {
	uses := []api.Pair{{Name: "B", Value: `A\B`}, {Name: "C", Value: "Q"}, {Name: "B", Value: "Second"}, {Name: "self", Value: "X"}, {Name: "static", Value: "X"}, {Name: "parent", Value: "X"}}
	for _, c := range []struct{ space, s, want string }{
		{"", "A", "A"},
		{"N", "A", `N\A`},
		{`N\M`, "A", `N\M\A`},
		{"N", `A\D`, `N\A\D`},
		{"", `A\D`, `A\D`},
		{"N", `\A`, "A"},
		{"N", `\A\B\C`, `A\B\C`},
		{"N", `\B`, "B"},
		{"N", `\B\C`, `B\C`},
		{"N", `\self`, "self"},
		{"N", "self", "self"},
		{"", "self", "self"},
		{"N", "parent", "parent"},
		{"N", "static", "static"},
		{"N", "Self", `N\Self`},
		{"N", "PARENT", `N\PARENT`},
		{"N", "Static", `N\Static`},
		{"N", `self\A`, `X\A`},
		{"N", `A\self`, `N\A\self`},
		{"N", "B", `A\B`},
		{"", "B", `A\B`},
		{"N", `B\C`, `A\B\C`},
		{"N", `B\C\B`, `A\B\C\B`},
		{"N", "C", "Q"},
		{"N", `C\B`, `Q\B`},
		{"N", "b", `N\b`},
		{"N", "BB", `N\BB`},
		{"N", `D\B`, `N\D\B`},
		{"N", "true", `N\true`},
		{"N", `N\A`, `N\N\A`},
		{"N", strings.Repeat("a", 90), `N\` + strings.Repeat("a", 90)},
	} {
		if got := Means(c.space, c.s, uses...); got != c.want {
			t.Errorf("Means(%q, %q): %q, not %q", c.space, c.s, got, c.want)
		}
	}
	if got := Means("N", `self\A`); got != `N\self\A` {
		t.Errorf("without aliases: %q", got)
	}
}

// TestP5_1_Odd: texts that are no names.
func TestP5_1_Odd(t *testing.T) {
	for _, c := range []struct{ space, s, want string }{
		{"", "", ""},
		{"N", "", `N\`},
		{"N", `\`, ""},
		{"N", `\\A`, `\A`},
		{"N", `B\`, `A\B\`},
		{"N", `A\\B`, `N\A\\B`},
		{"N", "a b\xff\x00", "N\\a b\xff\x00"},
		{`\`, "A", `\\A`},
	} {
		if got := Means(c.space, c.s, api.Pair{Name: "B", Value: `A\B`}); got != c.want {
			t.Errorf("Means(%q, %q): %q, not %q", c.space, c.s, got, c.want)
		}
	}
}

// TestP5_2_Example is the chapter's example.
func TestP5_2_Example(t *testing.T) {
	checkNames(t, `namespace N; use A\B; new B\C; f(D);`, `A\B\C N\f? N\D?`)
}

// TestP5_2_Classes: every place in which a class's name stands.
func TestP5_2_Classes(t *testing.T) {
	for _, c := range []struct{ code, want string }{
		{`class A extends B {}`, `class:N\A S\B`},
		{`class A extends \B implements B, C, self {}`, `class:N\A B S\B N\C self`},
		{`interface A extends B, C\D {}`, `class:N\A S\B N\C\D`},
		{`trait A {}`, `class:N\A`},
		{`abstract class B {} final class C {}`, `class:N\B class:N\C`},
		{`class A { use B, \B, D\B; }`, `class:N\A S\B B N\D\B`},
		{`class A { use T { B::m insteadof B, U; m insteadof \B; } }`, `class:N\A N\T S\B S\B N\U B`},
		{`class A { use T { B::m as B; m as self; \B\C::m as true; } }`, `class:N\A N\T S\B B self B\C true`},
		{`try { B; } catch (B | \B | parent | C $B) { B; } finally { B; }`, `N\B? S\B B parent N\C N\B? N\B?`},
		{`B::$x; B::X; B::f(B, C); $a::$x;`, `S\B S\B S\B N\B? N\C?`},
		{`self::X; static::$x; parent::f(); SELF::X;`, `self static parent N\SELF`},
		{`new B; new B(B); new \C(C); new static; new $a(C);`, `S\B S\B N\B? C N\C? static N\C?`},
		{`B instanceof B; $a instanceof C\D; $a instanceof \B\C; $a instanceof static; $a instanceof $b; C instanceof $b;`, `N\B? S\B N\C\D B\C static N\C?`},
		{`true instanceof true; null::X; new FALSE;`, `true N\true N\null N\FALSE`},
	} {
		checkNames(t, `namespace N; use S\B; `+c.code, c.want)
	}
}

// TestP5_2_Free: every place in which a function's or a constant's name stands.
func TestP5_2_Free(t *testing.T) {
	for _, c := range []struct{ code, want string }{
		{`f(); \f(); g\f(); B\f(); \B\f(); B();`, `N\f? f N\g\f S\B\f B\f N\B?`},
		{`C; \C; g\C; B\C; \B\C; B;`, `N\C? C N\g\C S\B\C B\C N\B?`},
		{`f(f, g(C));`, `N\f? N\f? N\g? N\C?`},
		{`(f)(1); f()(); f[0](C);`, `N\f? N\f? N\f? N\C?`},
		{`self; parent; self(); \self;`, `N\self? N\parent? N\self? self`},
		{`self\f(); static\C;`, `N\self\f N\static\C`},
		{`true; FALSE; Null; nUlL;`, `true false null null`},
		{`\true; \null; x\true; B\null;`, `true null N\x\true S\B\null`},
		{`$a = [C => D, E]; $a[C]; $a->b(C); A::f(C); isset($a[C]); exit(C);`, `N\C? N\D? N\E? N\C? N\C? N\A N\C? N\C? N\C?`},
		{`echo C, D; return C; throw C; if (C) D; while (C) D; do C; while (D); for (A; C; D) E; foreach (C as $B) D; switch (C) { case D: E; default: A; }`,
			`N\C? N\D? N\C? N\C? N\C? N\D? N\C? N\D? N\C? N\D? N\A? N\C? N\D? N\E? N\C? N\D? N\C? N\D? N\E? N\A?`},
		{`static $a = C; const D = E; unset($a[C]); include C; C ? D : E; C ?: D; C . D; !C; - C; clone C; (int) C;`,
			`N\C? const:N\D N\E? N\C? N\C? N\C? N\D? N\E? N\C? N\D? N\C? N\D? N\C? N\C? N\C? N\C?`},
		{`function C($a = C) { C; function D() {} } $f = function ($a = C) { const C = C; }; fn($b = C) => D;`,
			`function:N\C N\C? N\C? function:N\D N\C? const:N\C N\C? N\C? N\D?`},
		{`class B { const C = C; public $p = D; public static $q = E; public function f($a = C) { class D {} return D; } }`,
			`class:N\B N\C? N\D? N\E? N\C? class:N\D N\D?`},
	} {
		checkNames(t, `namespace N; use S\B; `+c.code, c.want)
	}
}

// TestP5_2_TrueCalled: true, false and null are constants alone: a function of such a name is one like others.
func TestP5_2_TrueCalled(t *testing.T) {
	checkNames(t, `namespace N; TRUE(true); function null() {} class False {} const null = NULL;`, `N\TRUE? true function:N\null class:N\False const:N\null null`)
	checkNames(t, `TRUE(true); \TRUE; \NULL();`, `TRUE true TRUE NULL`)
}

// TestP5_2_Space: the file's namespace.
func TestP5_2_Space(t *testing.T) {
	checkNames(t, `namespace N\M; new A; f(); \f();`, `N\M\A N\M\f? f`)
	checkNames(t, `namespace \N; new A; f();`, `N\A N\f?`)
	checkNames(t, `;; ?>text<?php ; namespace N; f();`, `N\f?`)
	checkNames(t, `namespace N ?>`, "")
	checkNames(t, `namespace true; f(); new true;`, `true\f? true\true`)
}

// TestP5_2_Aliases: what a word stands for, from where it does on.
func TestP5_2_Aliases(t *testing.T) {
	for _, c := range []struct{ code, want string }{
		{`new C; use \B\C; new C; new C\D;`, `C B\C B\C\D`},
		{`use B; new B; new B\C;`, `B B\C`},
		{`namespace N; use B; new B; new C; B(); B;`, `B N\C N\B? N\B?`},
		{`use A\B as C; new B; new C; new C\B; use D as B; new B;`, `C B A\B A\B\B B D`},
		{`use A\B as b; new b; new B;`, `b A\B B`},
		{`use A\self; use B as parent; new self; new self\C; parent::X; parent\f();`, `parent self A\self\C parent B\f`},
		{`use A\B; class B extends B {} function B() {} const B = B;`, `class:B A\B function:B const:B B`},
		{`use A\B; { if (1) new B; } function f() { return fn() => B::X; }`, `A\B function:f A\B`},
		{`use A\B; use B\C; new C;`, `B\C`},
		{`use A\true; true; true\X; new true;`, `true A\true\X A\true`},
		{`use A; use A as B; use A as C;`, `B C`},
	} {
		checkNames(t, c.code, c.want)
	}
}

// TestP5_2_Stays: all but names stays as it is, lines too, and name nodes that are nothing's.
func TestP5_2_Stays(t *testing.T) {
	source := "<?php namespace \\N;\nuse \\A\\B as C;\n" + `$a->p; $a->f($b); $a::$p; $a::f(); "$a $b[k] $c->d"; 'C\D'; function () use (&$a, $b) { };
abstract class
  A { public function C() { foreach ($a as $k => $v) { break; } } }`
	n := parsed(t, source)
	told, fault := Tell(n)
	if fault != (api.Fault{}) {
		t.Fatalf("%+v", fault)
	}
	want := parsed(t, source)
	want.Kids[len(want.Kids)-1].Text = `N\A`
	checkEqual(t, source, told, want)
	checkEqual(t, source, n, parsed(t, source))
	if len(told.Kids) != 10 || told.Kids[0].Text != `\N` || told.Kids[1].Text != `\A\B` || told.Kids[1].Kids[0].Text != "C" || told.Kids[9].Line != 4 {
		t.Errorf("%+v", told)
	}
}

// checkEqual holds two trees against each other, with their lines.
func checkEqual(t *testing.T, source string, got, want api.Node) {
	t.Helper()
	if !equal(got, want) {
		t.Fatalf("of %q:\n got %+v\nwant %+v", source, got, want)
	}
}

func equal(a, b api.Node) bool {
	if a.Op != b.Op || a.Text != b.Text || a.Int != b.Int || a.Line != b.Line || len(a.Kids) != len(b.Kids) {
		return false
	}
	for i := range a.Kids {
		if !equal(a.Kids[i], b.Kids[i]) {
			return false
		}
	}
	return true
}

// TestR4_Told: a told tree shares nothing with the tree that it is of, which stays.
func TestR4_Told(t *testing.T) {
	source := `<?php namespace N; use A\B; class C extends B { public $p = [TRUE, D]; } f(D, $a); ?>x`
	n := parsed(t, source)
	told, _ := Tell(n)
	checkEqual(t, source, n, parsed(t, source))
	scrawl(told)
	checkEqual(t, source, n, parsed(t, source))
	again, _ := Tell(n)
	other, _ := Tell(n)
	scrawl(again)
	if got := strings.Join(names(other), " "); got != `class:N\C A\B true N\D? N\f? N\D?` {
		t.Errorf("%q", got)
	}
}

// scrawl writes into every node of a tree.
func scrawl(n api.Node) {
	for i := range n.Kids {
		scrawl(n.Kids[i])
		n.Kids[i] = api.Node{Op: "x", Int: 9, Line: -1}
	}
}
