package tree

import (
	"strconv"
	"strings"
	"testing"

	"ostler/api"
	"ostler/word"
)

const open = "<?php "

// dump is a tree as text: of each node its Op, its Text, its Int and its Kids, without those that are empty; with lines, if asked for.
func dump(n api.Node, lines bool) string {
	s := n.Op
	if n.Text != "" {
		s += "'" + n.Text + "'"
	}
	if n.Int != 0 {
		s += strconv.Itoa(n.Int)
	}
	if lines {
		s += "@" + strconv.Itoa(n.Line)
	}
	if len(n.Kids) == 0 {
		return s
	}
	var kids []string
	for _, kid := range n.Kids {
		kids = append(kids, dump(kid, lines))
	}
	return s + "(" + strings.Join(kids, " ") + ")"
}

// checkFile holds the tree of a file against the one that it should have.
func checkFile(t *testing.T, file, want string) {
	t.Helper()
	n, fault := Parse(file)
	if got := dump(n, false); fault != (api.Fault{}) || got != want {
		t.Errorf("Parse(%q): %+v\n got %s\nwant %s", file, fault, got, want)
	}
}

// checkStmts holds the statements of a code, with a blank between, against those that it should have.
func checkStmts(t *testing.T, code, want string) {
	t.Helper()
	if want != "" {
		want = "(" + want + ")"
	}
	checkFile(t, open+code, "file"+want)
}

// checkExpr holds an expression against the one that it should be.
func checkExpr(t *testing.T, code, want string) {
	t.Helper()
	checkStmts(t, code+";", "expr("+want+")")
}

// checkMember holds a class's member against the one that it should be.
func checkMember(t *testing.T, code, want string) {
	t.Helper()
	checkStmts(t, "class A{"+code+"}", "class'A'(parents faces "+want+")")
}

// checkFault holds the fault of a file against the one that it should have.
func checkFault(t *testing.T, file string, why api.Errno, at int) {
	t.Helper()
	want := api.Fault{Why: why, At: at}
	if n, fault := Parse(file); fault != want || dump(n, true) != "@0" {
		t.Errorf("Parse(%q): %s, %+v; want %+v", file, dump(n, true), fault, want)
	}
}

// checkMarked holds the fault of a code, in which a ^ stands ahead of the wrong token.
func checkMarked(t *testing.T, why api.Errno, marked string) {
	t.Helper()
	ahead, behind, found := strings.Cut(marked, "^")
	if !found {
		t.Fatalf("no mark in %q", marked)
	}
	checkFault(t, open+ahead+behind, why, len(open+ahead))
}

func TestP3_1_Files(t *testing.T) {
	checkFile(t, "", "file")
	checkFile(t, "a", "file(html'a')")
	checkFile(t, "<?php", "file")
	checkFile(t, "<?php ?>", "file")
	checkFile(t, "<?php ?>a<?php ?>b", "file(html'a' html'b')")
	checkFile(t, "<p><?= 1 + 2 ?></p>", "file(html'<p>' echo(bin'+'(int1 int2)) html'</p>')")
	checkFile(t, "<?= 1, $a; ?>", "file(echo(int1 var'a'))")
	checkFile(t, "<?= 1 ?><?= 2 ?>", "file(echo(int1) echo(int2))")
	checkFile(t, "<?= 1 ?>a<?php echo 2 ?>b<?php { ?>c<?php } ?>d", "file(echo(int1) html'a' echo(int2) html'b' block(html'c') html'd')")
	checkFile(t, "<?php $a[] = 1 + 2 * 3;", "file(expr(assign'='(index(var'a' none) bin'+'(int1 bin'*'(int2 int3)))))")
}

// TestP3_1_Statements: each form of Stmt, with what may be left out of it left out and told.
func TestP3_1_Statements(t *testing.T) {
	checkStmts(t, "", "")
	checkStmts(t, ";", "empty")
	checkStmts(t, ";;", "empty empty")
	checkStmts(t, "{}", "block")
	checkStmts(t, "{;{}1;}", "block(empty block expr(int1))")
	checkStmts(t, "echo 1;", "echo(int1)")
	checkStmts(t, "echo 1, $a, 'b';", "echo(int1 var'a' text'b')")
	checkStmts(t, "if (1) ;", "if(int1 empty)")
	checkStmts(t, "if (1) {} else ;", "if(int1 block empty)")
	checkStmts(t, "if (1) {} elseif (2) ;", "if(int1 block int2 empty)")
	checkStmts(t, "if (1) {} elseif (2) ; elseif (3) {} else echo 4;", "if(int1 block int2 empty int3 block echo(int4))")
	checkStmts(t, "if (1) ; else if (2) ; else {}", "if(int1 empty if(int2 empty block))")
	checkStmts(t, "if (1) if (2) ; else {}", "if(int1 if(int2 empty block))")
	checkStmts(t, "while ($a) {}", "while(var'a' block)")
	checkStmts(t, "do ; while (1);", "do(empty int1)")
	checkStmts(t, "do {} while ($a);", "do(block var'a')")
	checkStmts(t, "for (;;) ;", "for(none none none empty)")
	checkStmts(t, "for (1;;) ;", "for(int1 none none empty)")
	checkStmts(t, "for (;2;) ;", "for(none int2 none empty)")
	checkStmts(t, "for (;;3) ;", "for(none none int3 empty)")
	checkStmts(t, "for ($i = 0; $i < 3; $i++) {}", "for(assign'='(var'i' int) bin'<'(var'i' int3) post'++'(var'i') block)")
	checkStmts(t, "foreach ($a as $v) ;", "foreach(var'a' none var'v' empty)")
	checkStmts(t, "foreach (f() as $k => $v) {}", "foreach(call(name'f') var'k' var'v' block)")
	checkStmts(t, "switch (1) {}", "switch(int1)")
	checkStmts(t, "switch ($a) { case 1: case 2: ; {} default: break; case 3: }", "switch(var'a' case(int1) case(int2 empty block) default(break1) case(int3))")
	checkStmts(t, "switch (1) { default: default: }", "switch(int1 default default)")
	checkStmts(t, "switch (1) { case $a ? 1 : 2: }", "switch(int1 case(cond(var'a' int1 int2)))")
	checkStmts(t, "break;", "break1")
	checkStmts(t, "break 2;", "break2")
	checkStmts(t, "break 0;", "break")
	checkStmts(t, "continue;", "continue1")
	checkStmts(t, "continue 0x1F;", "continue31")
	checkStmts(t, "return;", "return")
	checkStmts(t, "return 1;", "return(int1)")
	checkStmts(t, "throw $e;", "throw(var'e')")
	checkStmts(t, "global $a;", "global(var'a')")
	checkStmts(t, "global $a, $b, $a;", "global(var'a' var'b' var'a')")
	checkStmts(t, "static $a;", "static'a'")
	checkStmts(t, "static $a = $b = 1;", "static'a'(assign'='(var'b' int1))")
	checkStmts(t, "unset($a);", "unset(var'a')")
	checkStmts(t, "unset($a[0]->b);", "unset(field'b'(index(var'a' int)))")
	checkStmts(t, "const A = 1;", "const'A'(int1)")
	checkStmts(t, "try {}", "try(block)")
	checkStmts(t, "try { ; } catch (A $e) {}", "try(block(empty) catch'e'(name'A' block))")
	checkStmts(t, "try {} catch (A) { ; } catch (A\\B | \\C $f) {} finally { ; }", "try(block catch(name'A' block(empty)) catch'f'(name'A\\B' name'\\C' block) finally(block(empty)))")
	checkStmts(t, "try {} finally {}", "try(block finally(block))")
	checkStmts(t, "namespace A;", "namespace'A'")
	checkStmts(t, "namespace \\A\\B;", "namespace'\\A\\B'")
	checkStmts(t, "use A;", "use'A'")
	checkStmts(t, "use \\A\\B as C;", "use'\\A\\B'(name'C')")
	checkStmts(t, "function f() {}", "function'f'(block)")
	checkStmts(t, "function f($a, &$b, $c = 1, &$d = [2]) { return 1; }", "function'f'(param'a' param'b'1 param'c'(int1) param'd'1(list(item(int2))) block(return(int1)))")
	checkStmts(t, "1;", "expr(int1)")
	checkStmts(t, "$a = 1; f(2);", "expr(assign'='(var'a' int1)) expr(call(name'f' int2))")
}

// TestP3_1_Begins: `static` and `function` begin statements and expressions.
func TestP3_1_Begins(t *testing.T) {
	checkStmts(t, "static::$a;", "expr(sfield'a'(name'static'))")
	checkStmts(t, "static::a();", "expr(scall'a'(name'static'))")
	checkStmts(t, "STATIC $a; Static::A;", "static'a' expr(classconst'A'(name'static'))")
	checkStmts(t, "function () {};", "expr(closure(uses block))")
	checkStmts(t, "function ($a) {} (1);", "expr(call(closure(param'a' uses block) int1))")
	checkStmts(t, "FUNCTION F() {} Function() {};", "function'F'(block) expr(closure(uses block))")
	checkStmts(t, "fn() => 1;", "expr(fn(int1))")
	checkStmts(t, "{ static $a; function f() {} }", "block(static'a' function'f'(block))")
	checkStmts(t, "[$a] = 1;", "expr(spread(var'a' int1))")
	checkStmts(t, "A::b;", "expr(classconst'b'(name'A'))")
	// Keywords in letters of either case.
	checkStmts(t, "ECHO 1; If (1) ; ELSEIF (2) ; Else ; Foreach ($a AS $b) ;", "echo(int1) if(int1 empty int2 empty empty) foreach(var'a' none var'b' empty)")
	checkStmts(t, "INCLUDE 1; Require_Once 2; NEW A; EXIT; Clone 1; FN() => 1;", "expr(include'include'(int1)) expr(include'require_once'(int2)) expr(new(name'A')) expr(exit) expr(clone(int1)) expr(fn(int1))")
	checkStmts(t, "BREAK; Continue 2;", "break1 continue2")
	checkStmts(t, "Switch (1) { Case 1: DEFAULT: }", "switch(int1 case(int1) default)")
}

// TestP3_1_Ends: `;` and `?>` that is left out and that is not.
func TestP3_1_Ends(t *testing.T) {
	again := "?>" + open
	for _, c := range [][2]string{
		{"echo 1 | {}", "echo(int1) block"},
		{"| | ; |", "empty"},
		{"{ | ; | }", "block(empty)"},
		{"function f() { | }", "function'f'(block)"},
		{"$a = function() { | } |", "expr(assign'='(var'a' closure(uses block)))"},
		{"try { | } catch (A) { | } finally { | }", "try(block catch(name'A' block) finally(block))"},
		{"switch (1) { case 1: | | default: | }", "switch(int1 case(int1) default)"},
		{"if (1) |", "if(int1 empty)"},
		{"if (1) | elseif (2) | else |", "if(int1 empty int2 empty empty)"},
		{"if (1) | |", "if(int1 empty)"},
		{"while (1) |", "while(int1 empty)"},
		{"do | while (1) |", "do(empty int1)"},
		{"for (1 | 2 | 3) |", "for(int1 int2 int3 empty)"},
		{"for (| |) |", "for(none none none empty)"},
		{"foreach (1 as $a) |", "foreach(int1 none var'a' empty)"},
		{"break | continue 2 |", "break1 continue2"},
		{"return | return 1 | throw 1 |", "return return(int1) throw(int1)"},
		{"global $a | static $a | unset($a) | const A = 1 |", "global(var'a') static'a' unset(var'a') const'A'(int1)"},
		{"namespace A | use B | use B as C |", "namespace'A' use'B' use'B'(name'C')"},
		{"class A { const B = 1 | public $a | public function f() | use T | use T { a as b | } }", "class'A'(parents faces cconst'B'(int1) prop'a' method'f' traits(name'T') traits(name'T' as'a'(none name'b')))"},
	} {
		checkStmts(t, strings.ReplaceAll(c[0], "|", again), c[1])
		checkStmts(t, strings.ReplaceAll(c[0], "|", "?>\n"+open), c[1])
	}
	checkFile(t, "<?php if (1) { ?>a<?php } else { ?>b<?php }", "file(if(int1 block(html'a') block(html'b')))")
	checkFile(t, "<?php switch (1) { case 1: ?>a<?php default: ?>b<?php }", "file(switch(int1 case(int1 html'a') default(html'b')))")
}

// TestP3_1_Classes: each form of Class.
func TestP3_1_Classes(t *testing.T) {
	checkStmts(t, "class A {}", "class'A'(parents faces)")
	checkStmts(t, "abstract class A {}", "class'A'1(parents faces)")
	checkStmts(t, "final class A {}", "class'A'2(parents faces)")
	checkStmts(t, "class A extends B {}", "class'A'(parents(name'B') faces)")
	checkStmts(t, "class A implements B {}", "class'A'(parents faces(name'B'))")
	checkStmts(t, "final class A extends \\B\\C implements D, E\\F {}", "class'A'2(parents(name'\\B\\C') faces(name'D' name'E\\F'))")
	checkStmts(t, "interface A {}", "class'A'4(parents faces)")
	checkStmts(t, "interface A extends B {}", "class'A'4(parents(name'B') faces)")
	checkStmts(t, "interface A extends B, \\C { const D = 1; }", "class'A'4(parents(name'B' name'\\C') faces cconst'D'(int1))")
	checkStmts(t, "trait A {}", "class'A'8(parents faces)")
	checkStmts(t, "trait A { use B; }", "class'A'8(parents faces traits(name'B'))")
	checkStmts(t, "{ class A {} }", "block(class'A'(parents faces))")
	checkStmts(t, "Abstract CLASS A Extends B IMPLEMENTS C { PUBLIC STATIC $a; }", "class'A'1(parents(name'B') faces(name'C') prop'a'1)")
}

// TestP3_1_Members: each form of Member and of Rule.
func TestP3_1_Members(t *testing.T) {
	checkMember(t, "const B = 1;", "cconst'B'(int1)")
	checkMember(t, "public $a;", "prop'a'")
	checkMember(t, "public $a = [1];", "prop'a'(list(item(int1)))")
	checkMember(t, "public static $a;", "prop'a'1")
	checkMember(t, "public static $a = 2;", "prop'a'1(int2)")
	checkMember(t, "public function f() {}", "method'f'(block)")
	checkMember(t, "public function f();", "method'f'")
	checkMember(t, "public function f($a, &$b = 1) { ; }", "method'f'(param'a' param'b'1(int1) block(empty))")
	checkMember(t, "public function f($a);", "method'f'(param'a')")
	checkMember(t, "public static function f() {}", "method'f'1(block)")
	checkMember(t, "public abstract function f();", "method'f'2")
	checkMember(t, "public abstract static function f();", "method'f'3")
	checkMember(t, "public final function f() {}", "method'f'4(block)")
	checkMember(t, "public final static function f() {}", "method'f'5(block)")
	checkMember(t, "public abstract function f() {} public function g();", "method'f'2(block) method'g'")
	checkMember(t, "use T;", "traits(name'T')")
	checkMember(t, "use T, \\U\\V;", "traits(name'T' name'\\U\\V')")
	checkMember(t, "use T {}", "traits(name'T')")
	checkMember(t, "use T { f as g; }", "traits(name'T' as'f'(none name'g'))")
	checkMember(t, "use T { T::f as g; }", "traits(name'T' as'f'(name'T' name'g'))")
	checkMember(t, "use T, U { \\A\\T::f insteadof U; }", "traits(name'T' name'U' insteadof'f'(name'\\A\\T' name'U'))")
	checkMember(t, "use T { f insteadof U, \\V; T::g as h; }", "traits(name'T' insteadof'f'(none name'U' name'\\V') as'g'(name'T' name'h'))")
	checkMember(t, "const B = 1; const C = 2; public $a; use T;", "cconst'B'(int1) cconst'C'(int2) prop'a' traits(name'T')")
}

// TestP3_1_Operators: how close operators bind, and on which side.
func TestP3_1_Operators(t *testing.T) {
	for _, sign := range strings.Fields("|| && == != === !== <=> < <= > >= . + - * % ??") {
		checkExpr(t, "1 "+sign+" $a", "bin'"+sign+"'(int1 var'a')")
	}
	for _, sign := range strings.Fields("|| && . + - * %") {
		checkExpr(t, "1 "+sign+" 2 "+sign+" 3", "bin'"+sign+"'(bin'"+sign+"'(int1 int2) int3)")
	}
	checkExpr(t, "1 ?? 2 ?? 3", "bin'??'(int1 bin'??'(int2 int3))")
	checkExpr(t, "1 - 2 + 3", "bin'+'(bin'-'(int1 int2) int3)")
	checkExpr(t, "1 % 2 * 3", "bin'*'(bin'%'(int1 int2) int3)")
	closer := strings.Fields("|| && == < . + *")
	for i, a := range closer[1:] {
		for _, b := range closer[:i+1] {
			checkExpr(t, "1 "+a+" 2 "+b+" 3", "bin'"+b+"'(bin'"+a+"'(int1 int2) int3)")
			checkExpr(t, "1 "+b+" 2 "+a+" 3", "bin'"+b+"'(int1 bin'"+a+"'(int2 int3))")
		}
		checkExpr(t, "1 "+a+" 2 ?? 3 "+a+" 4", "bin'??'(bin'"+a+"'(int1 int2) bin'"+a+"'(int3 int4))")
		checkExpr(t, "1 "+a+" 2 ? 3 : 4 "+a+" 5", "cond(bin'"+a+"'(int1 int2) int3 bin'"+a+"'(int4 int5))")
	}
	checkExpr(t, "1 ? 2 : 3", "cond(int1 int2 int3)")
	checkExpr(t, "1 ? : 3", "cond(int1 none int3)")
	checkExpr(t, "1 ?: 3", "cond(int1 none int3)")
	checkExpr(t, "1 ? 2 : 3 ? 4 : 5", "cond(int1 int2 cond(int3 int4 int5))")
	checkExpr(t, "1 ? 2 ? 3 : 4 : 5", "cond(int1 cond(int2 int3 int4) int5)")
	checkExpr(t, "1 ?? 2 ? 3 : 4", "bin'??'(int1 cond(int2 int3 int4))")
	checkExpr(t, "1 ? 2 : 3 ?? 4", "cond(int1 int2 bin'??'(int3 int4))")
	checkExpr(t, "(1 + 2) * 3", "bin'*'(bin'+'(int1 int2) int3)")
	checkExpr(t, "1 - (2 - 3)", "bin'-'(int1 bin'-'(int2 int3))")
	checkExpr(t, "(1 == 2) == 3", "bin'=='(bin'=='(int1 int2) int3)")
	checkExpr(t, "((1))", "int1")
	for _, word := range []string{"include", "include_once", "require", "require_once"} {
		checkExpr(t, word+" 'a' . 'b'", "include'"+word+"'(bin'.'(text'a' text'b'))")
	}
	checkExpr(t, "include include 1 ? 2 : 3", "include'include'(include'include'(cond(int1 int2 int3)))")
	checkExpr(t, "1 ?? include 2", "bin'??'(int1 include'include'(int2))")
	checkExpr(t, "1 ? include 2 : include 3", "cond(int1 include'include'(int2) include'include'(int3))")
}

// TestP3_1_Prefixes: what stands ahead of an operand, and instanceof.
func TestP3_1_Prefixes(t *testing.T) {
	checkExpr(t, "!1", "not(int1)")
	checkExpr(t, "-1", "minus(int1)")
	checkExpr(t, "- - 1", "minus(minus(int1))")
	checkExpr(t, "clone $a", "clone(var'a')")
	checkExpr(t, "++$a", "pre'++'(var'a')")
	checkExpr(t, "--$a[0]->b", "pre'--'(field'b'(index(var'a' int)))")
	checkExpr(t, "++A::$b", "pre'++'(sfield'b'(name'A'))")
	checkExpr(t, "++($a)", "pre'++'(var'a')")
	checkExpr(t, "!-clone ++$a", "not(minus(clone(pre'++'(var'a'))))")
	checkExpr(t, "!1 + -2 * !3", "bin'+'(not(int1) bin'*'(minus(int2) not(int3)))")
	checkExpr(t, "-$a[0]", "minus(index(var'a' int))")
	checkExpr(t, "-$a++", "minus(post'++'(var'a'))")
	checkExpr(t, "1 - -2", "bin'-'(int1 minus(int2))")
	for _, word := range []string{"int", "string", "bool", "array"} {
		title := strings.ToUpper(word[:1]) + word[1:]
		for _, s := range []string{word, strings.ToUpper(word), title} {
			checkExpr(t, "("+s+")$a", "cast'"+word+"'(var'a')")
			checkExpr(t, "( "+s+" ) !$a + 1", "bin'+'(cast'"+word+"'(not(var'a')) int1)")
			checkExpr(t, "!("+s+")("+s+")1", "not(cast'"+word+"'(cast'"+word+"'(int1)))")
			checkExpr(t, "f("+s+")", "call(name'f' name'"+s+"')")
			checkExpr(t, "new A("+s+")", "new(name'A' name'"+s+"')")
			checkExpr(t, "$a->b("+s+")", "mcall'b'(var'a' name'"+s+"')")
			checkExpr(t, "A::b("+s+")", "scall'b'(name'A' name'"+s+"')")
			checkExpr(t, "exit("+s+")", "exit(name'"+s+"')")
			checkExpr(t, "empty("+s+")", "isempty(name'"+s+"')")
			checkExpr(t, "("+s+" . 1)", "bin'.'(name'"+s+"' int1)")
			checkExpr(t, "("+s+"())", "call(name'"+s+"')")
			checkExpr(t, s+"(1)", "call(name'"+s+"' int1)")
			checkExpr(t, "(\\"+s+")", "name'\\"+s+"'")
		}
		checkStmts(t, "if ("+word+") (1);", "if(name'"+word+"' expr(int1))")
	}
	checkExpr(t, "(integer)", "name'integer'")
	checkExpr(t, "(object)", "name'object'")
	checkExpr(t, "$a instanceof B", "is(var'a' name'B')")
	checkExpr(t, "$a instanceof \\B\\C", "is(var'a' name'\\B\\C')")
	checkExpr(t, "1 instanceof $b", "is(int1 var'b')")
	checkExpr(t, "$a instanceof static", "is(var'a' name'static')")
	checkExpr(t, "$a->b() instanceof B == 1", "bin'=='(is(mcall'b'(var'a') name'B') int1)")
	checkExpr(t, "!$a instanceof B", "not(is(var'a' name'B'))")
	checkExpr(t, "($a instanceof B) instanceof C", "is(is(var'a' name'B') name'C')")
}

// TestP3_1_Assignments: where an assignment is read, and what it takes.
func TestP3_1_Assignments(t *testing.T) {
	for _, sign := range strings.Fields("= += -= *= %= .= ??=") {
		checkExpr(t, "$a "+sign+" 1", "assign'"+sign+"'(var'a' int1)")
		checkExpr(t, "$a "+sign+" $b "+sign+" 1 + 2", "assign'"+sign+"'(var'a' assign'"+sign+"'(var'b' bin'+'(int1 int2)))")
		checkExpr(t, "$a[] "+sign+" 1", "assign'"+sign+"'(index(var'a' none) int1)")
		checkExpr(t, "!$a "+sign+" 1", "not(assign'"+sign+"'(var'a' int1))")
		checkExpr(t, "1 + $a "+sign+" 2 + 3", "bin'+'(int1 assign'"+sign+"'(var'a' bin'+'(int2 int3)))")
	}
	checkExpr(t, "1 * -$a = 2 || 3", "bin'*'(int1 minus(assign'='(var'a' bin'||'(int2 int3))))")
	checkExpr(t, "(int) $a = 1", "cast'int'(assign'='(var'a' int1))")
	checkExpr(t, "1 ?? $a = 2", "bin'??'(int1 assign'='(var'a' int2))")
	checkExpr(t, "1 ? $a = 2 : $b = 3", "cond(int1 assign'='(var'a' int2) assign'='(var'b' int3))")
	checkExpr(t, "$a = 1 ? 2 : 3", "assign'='(var'a' cond(int1 int2 int3))")
	checkExpr(t, "$a = include 1", "assign'='(var'a' include'include'(int1))")
	checkExpr(t, "include $a = 1", "include'include'(assign'='(var'a' int1))")
	checkExpr(t, "$a = 1 == 2 == 3", "bin'=='(assign'='(var'a' bin'=='(int1 int2)) int3)")
	checkExpr(t, "($a = 1) + 2", "bin'+'(assign'='(var'a' int1) int2)")
	checkExpr(t, "($a = 1)[0]", "index(assign'='(var'a' int1) int)")
	checkExpr(t, "f($a = 1, $b = 2)", "call(name'f' assign'='(var'a' int1) assign'='(var'b' int2))")
	checkExpr(t, "[$a = 1, 2 => $b = 3]", "list(item(assign'='(var'a' int1)) item(int2 assign'='(var'b' int3)))")
	// Places.
	checkExpr(t, "$a[1][$b]->c[]->d = 1", "assign'='(field'd'(index(field'c'(index(index(var'a' int1) var'b')) none)) int1)")
	checkExpr(t, "$a[][] = 1", "assign'='(index(index(var'a' none) none) int1)")
	checkExpr(t, "A::$b = 1", "assign'='(sfield'b'(name'A') int1)")
	checkExpr(t, "static::$b[0] = 1", "assign'='(index(sfield'b'(name'static') int) int1)")
	checkExpr(t, "$a::$b->c .= 1", "assign'.='(field'c'(sfield'b'(var'a')) int1)")
	checkExpr(t, "($a) = 1", "assign'='(var'a' int1)")
	checkExpr(t, "(($a)[0])->b = 1", "assign'='(field'b'(index(var'a' int)) int1)")
	checkExpr(t, "($a)[] = 1", "assign'='(index(var'a' none) int1)")
	checkExpr(t, "$a[$b[] = 1]", "index(var'a' assign'='(index(var'b' none) int1))")
	checkExpr(t, "$a[$b[] = 1] = 2", "assign'='(index(var'a' assign'='(index(var'b' none) int1)) int2)")
	checkExpr(t, "$a[] = $b[] = 1", "assign'='(index(var'a' none) assign'='(index(var'b' none) int1))")
	// References.
	checkExpr(t, "$a = &$b", "refer(var'a' var'b')")
	checkExpr(t, "($a) = & $b", "refer(var'a' var'b')")
	checkExpr(t, "1 . $a = &$b", "bin'.'(int1 refer(var'a' var'b'))")
	checkExpr(t, "$a = &$b + 1", "bin'+'(refer(var'a' var'b') int1)")
	checkExpr(t, "$c = $a = &$b", "assign'='(var'c' refer(var'a' var'b'))")
	// Lists.
	checkExpr(t, "[$a] = 1", "spread(var'a' int1)")
	checkExpr(t, "[$a, $b, $a] = [1, 2]", "spread(var'a' var'b' var'a' list(item(int1) item(int2)))")
	checkExpr(t, "[$a, ($b)] = 1", "spread(var'a' var'b' int1)")
	checkExpr(t, "([$a]) = 1", "spread(var'a' int1)")
	checkExpr(t, "[$a] = [$b] = 1", "spread(var'a' spread(var'b' int1))")
	checkExpr(t, "1 + [$a] = 2 + 3", "bin'+'(int1 spread(var'a' bin'+'(int2 int3)))")
}

// TestP3_1_Steps: what stands behind an atom.
func TestP3_1_Steps(t *testing.T) {
	checkExpr(t, "$a[0]", "index(var'a' int)")
	checkExpr(t, "$a[$b][1 + 2]", "index(index(var'a' var'b') bin'+'(int1 int2))")
	checkExpr(t, "$a->b", "field'b'(var'a')")
	checkExpr(t, "$a->b->c", "field'c'(field'b'(var'a'))")
	checkExpr(t, "$a->list", "field'list'(var'a')")
	checkExpr(t, "$a->b()", "mcall'b'(var'a')")
	checkExpr(t, "$a->b(1, $c)", "mcall'b'(var'a' int1 var'c')")
	checkExpr(t, "($a->b)(1)", "call(field'b'(var'a') int1)")
	checkExpr(t, "$a()", "call(var'a')")
	checkExpr(t, "$a(1)(2, 3)", "call(call(var'a' int1) int2 int3)")
	checkExpr(t, "f()", "call(name'f')")
	checkExpr(t, "\\a\\f (1)", "call(name'\\a\\f' int1)")
	checkExpr(t, "f(g(h()))", "call(name'f' call(name'g' call(name'h')))")
	checkExpr(t, "'f'(1)", "call(text'f' int1)")
	checkExpr(t, "[1](2)", "call(list(item(int1)) int2)")
	checkExpr(t, "$a++", "post'++'(var'a')")
	checkExpr(t, "$a--", "post'--'(var'a')")
	checkExpr(t, "$a[0]->b++", "post'++'(field'b'(index(var'a' int)))")
	checkExpr(t, "($a)++", "post'++'(var'a')")
	checkExpr(t, "A::$b--", "post'--'(sfield'b'(name'A'))")
	checkExpr(t, "$a++[0]->b()", "mcall'b'(index(post'++'(var'a') int))")
	checkExpr(t, "$a++ + ++$b", "bin'+'(post'++'(var'a') pre'++'(var'b'))")
	checkExpr(t, "f()[0]->b(1)->c", "field'c'(mcall'b'(index(call(name'f') int) int1))")
	checkExpr(t, "'a'[0]", "index(text'a' int)")
	checkExpr(t, "A[0]", "index(name'A' int)")
}

// TestP3_1_Atoms: each form of Atom, with what may be left out of it left out and told.
func TestP3_1_Atoms(t *testing.T) {
	checkExpr(t, "$a", "var'a'")
	checkExpr(t, "0", "int")
	checkExpr(t, "9223372036854775807", "int9223372036854775807")
	checkExpr(t, "0xfF", "int255")
	checkExpr(t, "''", "text")
	checkExpr(t, "'a'", "text'a'")
	checkExpr(t, `"a\x41"`, "text'aA'")
	checkExpr(t, "<<<A\nb\nA", "text'b'")
	checkExpr(t, "a", "name'a'")
	checkExpr(t, "\\a\\B", "name'\\a\\B'")
	checkExpr(t, "TRUE", "name'TRUE'")
	checkExpr(t, "[]", "list")
	checkExpr(t, "[1]", "list(item(int1))")
	checkExpr(t, "[1,]", "list(item(int1))")
	checkExpr(t, "[1, 2 => 3, [4 => 5,],]", "list(item(int1) item(int2 int3) item(list(item(int4 int5))))")
	checkExpr(t, "A::$b", "sfield'b'(name'A')")
	checkExpr(t, "$a::$b", "sfield'b'(var'a')")
	checkExpr(t, "static::$b", "sfield'b'(name'static')")
	checkExpr(t, "\\A\\B::c", "classconst'c'(name'\\A\\B')")
	checkExpr(t, "$a::c", "classconst'c'(var'a')")
	checkExpr(t, "A::c()", "scall'c'(name'A')")
	checkExpr(t, "A::c(1, 2)(3)", "call(scall'c'(name'A' int1 int2) int3)")
	checkExpr(t, "$a::c()", "scall'c'(var'a')")
	checkExpr(t, "A::$b(1)", "call(sfield'b'(name'A') int1)")
	checkExpr(t, "(A::c)(1)", "call(classconst'c'(name'A') int1)")
	checkExpr(t, "new A", "new(name'A')")
	checkExpr(t, "new \\A\\B()", "new(name'\\A\\B')")
	checkExpr(t, "new A(1, 2)", "new(name'A' int1 int2)")
	checkExpr(t, "new $a", "new(var'a')")
	checkExpr(t, "new static(1)", "new(name'static' int1)")
	checkExpr(t, "new A(1)->b", "field'b'(new(name'A' int1))")
	checkExpr(t, "new $a->b(1)", "mcall'b'(new(var'a') int1)")
	checkExpr(t, "new $a[0]", "index(new(var'a') int)")
	checkExpr(t, "new A(1)(2)", "call(new(name'A' int1) int2)")
	checkExpr(t, "isset($a)", "isset(var'a')")
	checkExpr(t, "isset(($a[0])->b)", "isset(field'b'(index(var'a' int)))")
	checkExpr(t, "isset(A::$b)", "isset(sfield'b'(name'A'))")
	checkExpr(t, "empty($a)", "isempty(var'a')")
	checkExpr(t, "empty(1 + 2)", "isempty(bin'+'(int1 int2))")
	checkExpr(t, "exit", "exit")
	checkExpr(t, "exit()", "exit")
	checkExpr(t, "exit('a')", "exit(text'a')")
	checkExpr(t, "exit(1)(2)", "call(exit(int1) int2)")
	checkExpr(t, "1 || exit", "bin'||'(int1 exit)")
	checkExpr(t, "function () {}", "closure(uses block)")
	checkExpr(t, "function ($a, &$b = 1) use ($c) { ; }", "closure(param'a' param'b'1(int1) uses(use'c') block(empty))")
	checkExpr(t, "function () use (&$a, $b, &$c) {}", "closure(uses(use'a'1 use'b' use'c'1) block)")
	checkExpr(t, "fn() => 1", "fn(int1)")
	checkExpr(t, "fn($a, &$b) => $a + $b", "fn(param'a' param'b'1 bin'+'(var'a' var'b'))")
	checkExpr(t, "fn() => fn() => $a = 1", "fn(fn(assign'='(var'a' int1)))")
	checkExpr(t, "1 + fn() => 2 ? 3 : 4", "bin'+'(int1 fn(cond(int2 int3 int4)))")
	checkExpr(t, "fn() => $a instanceof B (1)", "call(fn(is(var'a' name'B')) int1)")
}

// TestP3_1_Parts: texts with variables in them.
func TestP3_1_Parts(t *testing.T) {
	checkExpr(t, `"$a"`, "parts(var'a')")
	checkExpr(t, `"b$a c$d"`, "parts(text'b' var'a' text' c' var'd')")
	checkExpr(t, `"$a[0]$a[12]$a[-7]"`, "parts(index(var'a' int) index(var'a' int12) index(var'a' int-7))")
	checkExpr(t, `"$a[k]$a[$b]$a->p."`, "parts(index(var'a' text'k') index(var'a' var'b') field'p'(var'a') text'.')")
	checkExpr(t, "<<<A\n\"$a\"\nA . \"$b\"[0]", "bin'.'(parts(text'\"' var'a' text'\"') index(parts(var'b') int))")
}

// TestP3_1_FarKeys: a number in a text's brackets is an int node, whatever its size; what 64 bits do not hold is the nearest that they do.
func TestP3_1_FarKeys(t *testing.T) {
	const most, least = "9223372036854775807", "-9223372036854775808"
	noughts := strings.Repeat("0", 60000)
	for _, c := range []struct{ key, want string }{
		{"9223372036854775806", "9223372036854775806"}, {most, most}, {"9223372036854775808", most}, {"9223372036854775809", most},
		{"-9223372036854775807", "-9223372036854775807"}, {least, least}, {"-9223372036854775809", least}, {"-9223372036854775810", least},
		{"10000000000000000000", most}, {"18446744073709551615", most}, {"18446744073709551616", most}, {"18446744073709551623", most}, {"99999999999999999999", most}, {"1" + noughts, most},
		{"-10000000000000000000", least}, {"-18446744073709551616", least}, {"-18446744073709551623", least}, {"-99999999999999999999", least}, {"-1" + noughts, least},
	} {
		index := "index(var'a' int" + c.want + ")"
		checkExpr(t, `"$a[`+c.key+`]"`, "parts("+index+")")
		checkExpr(t, `"b$a[`+c.key+`]c"`, "parts(text'b' "+index+" text'c')")
		checkExpr(t, "<<<A\n$a["+c.key+"]\nA", "parts("+index+")")
	}
	// What looks like such a number, but stands where a text does, stays a text.
	checkExpr(t, `"$a[0] [99999999999999999999]"`, "parts(index(var'a' int) text' [99999999999999999999]')")
	checkExpr(t, `$a['99999999999999999999']`, "index(var'a' text'99999999999999999999')")
	checkExpr(t, `$a["-9223372036854775809"]`, "index(var'a' text'-9223372036854775809')")
	// Out of a text no number is above 64 bits.
	checkMarked(t, api.ErrNum, "$a[^9223372036854775808];")
}

// TestP3_1_Layer2: a fault of the tokens is told, wherever it is.
func TestP3_1_Layer2(t *testing.T) {
	checkMarked(t, api.ErrOpen, "1 1 1 ^'a")
	checkMarked(t, api.ErrForm, ") ^@")
	checkMarked(t, api.ErrNum, "if ^12a")
	checkMarked(t, api.ErrLong, strings.Repeat("{", 70)+"^$"+strings.Repeat("a", api.MaxName+1))
	checkFault(t, strings.Repeat("a", api.MaxFile+1), api.ErrLong, 0)
	if _, fault := Parse(strings.Repeat("a", api.MaxFile)); fault != (api.Fault{}) {
		t.Errorf("a file of MaxFile bytes: %+v", fault)
	}
}

// onLines is a code with each token on a line of its own, from line 2 on.
func onLines(t *testing.T, code string) string {
	t.Helper()
	toks, fault := word.Tokens(open + code)
	if fault.Why != api.OK {
		t.Fatalf("%q: %+v", code, fault)
	}
	file := open
	for i, tok := range toks {
		end := len(open + code)
		if i+1 < len(toks) {
			end = toks[i+1].At
		}
		file += "\n" + (open + code)[tok.At:end]
	}
	return file
}

// TestP3_1_Lines: the Line of each kind of node.
func TestP3_1_Lines(t *testing.T) {
	for _, c := range [][2]string{
		{"; { ; }", "empty@2 block@3(empty@4)"},
		{"echo 1, 2;", "echo@2(int@3 int@5)"},
		{"if (1) ; elseif (2) ; else {}", "if@2(int@4 empty@6 int@9 empty@11 block@13)"},
		{"while (1) ;", "while@2(int@4 empty@6)"},
		{"do ; while (1);", "do@2(empty@3 int@6)"},
		{"for (;;) ;", "for@2(none@0 none@0 none@0 empty@7)"},
		{"foreach (1 as $v) ;", "foreach@2(int@4 none@0 var@6 empty@8)"},
		{"foreach (1 as $k => $v) ;", "foreach@2(int@4 var@6 var@8 empty@10)"},
		{"switch (1) { case 2: ; default: ; }", "switch@2(int@4 case@7(int@8 empty@10) default@11(empty@13))"},
		{"break; continue 2; return; return 1; throw 2;", "break@2 continue@4 return@7 return@9(int@10) throw@12(int@13)"},
		{"global $a, $b; static $a = 1; unset($a); const A = 1;", "global@2(var@3 var@5) static@7(int@10) unset@12(var@14) const@17(int@20)"},
		{"try {} catch (A | B $e) {} finally {}", "try@2(block@3 catch@5(name@7 name@9 block@12) finally@14(block@15))"},
		{"namespace A; use B; use C as D;", "namespace@2 use@5 use@8(name@11)"},
		{"function f($a, &$b = 1) {}", "function@2(param@5 param@7(int@10) block@12)"},
		{"abstract class A extends B implements C, D {}", "class@2(parents@0(name@6) faces@0(name@8 name@10))"},
		{"class A {} interface B {} trait C {}", "class@2(parents@0 faces@0) class@6(parents@0 faces@0) class@10(parents@0 faces@0)"},
		{"class A { const B = 1; public $a = 2; public static function f() {} }", "class@2(parents@0 faces@0 cconst@5(int@8) prop@10(int@13) method@15(block@21))"},
		{"trait A { use B, C { b insteadof C; B::c as d; } }", "class@2(parents@0 faces@0 traits@5(name@6 name@8 insteadof@10(none@0 name@12) as@14(name@14 name@18)))"},
		{"(1);", "expr@2(int@3)"},
		{"$a = 1;", "expr@2(assign@3(var@2 int@4))"},
		{"$a = &$b;", "expr@2(refer@3(var@2 var@5))"},
		{"[$a, $b] = 1;", "expr@2(spread@7(var@3 var@5 int@8))"},
		{"include 1;", "expr@2(include@2(int@3))"},
		{"1 ? 2 : 3;", "expr@2(cond@3(int@2 int@4 int@6))"},
		{"1 ? : 3;", "expr@2(cond@3(int@2 none@0 int@5))"},
		{"1 ?? 2 || 3;", "expr@2(bin@3(int@2 bin@5(int@4 int@6)))"},
		{"(1 + 2) * 3;", "expr@2(bin@7(bin@4(int@3 int@5) int@8))"},
		{"!- clone ++$a;", "expr@2(not@2(minus@3(clone@4(pre@5(var@6)))))"},
		{"(int) 1;", "expr@2(cast@2(int@5))"},
		{"$a instanceof B;", "expr@2(is@3(var@2 name@4))"},
		{"$a instanceof static;", "expr@2(is@3(var@2 name@4))"},
		{"$a[0]->b(1);", "expr@2(mcall@6(index@3(var@2 int@4) int@9))"},
		{"$a->b[] = 1;", "expr@2(assign@7(index@5(field@3(var@2) none@0) int@8))"},
		{"f(1)(2);", "expr@2(call@6(call@3(name@2 int@4) int@7))"},
		{"$a++;", "expr@2(post@3(var@2))"},
		{"A::b(1);", "expr@2(scall@3(name@2 int@6))"},
		{"A::$b . static::c;", "expr@2(bin@5(sfield@3(name@2) classconst@7(name@6)))"},
		{"new A(1);", "expr@2(new@2(name@3 int@5))"},
		{"[1, 2 => 3, (4)];", "expr@2(list@2(item@3(int@3) item@5(int@5 int@7) item@9(int@10)))"},
		{"isset($a) . empty(1);", "expr@2(bin@6(isset@2(var@4) isempty@7(int@9)))"},
		{"exit; exit(1);", "expr@2(exit@2) expr@4(exit@4(int@6))"},
		{"function ($a) use (&$b, $c) {};", "expr@2(closure@2(param@4 uses@0(use@8 use@11) block@13))"},
		{"fn(&$a) => 1;", "expr@2(fn@2(param@4 int@8))"},
		{`1 . "a$b[0]$c->d";`, "expr@2(bin@3(int@2 parts@4(text@4 index@4(var@4 int@4) field@4(var@4))))"},
	} {
		n, fault := Parse(onLines(t, c[0]))
		got := dump(bare(n), true)
		if want := "file@1(" + c[1] + ")"; fault != (api.Fault{}) || got != want {
			t.Errorf("%q: %+v\n got %s\nwant %s", c[0], fault, got, want)
		}
	}
	n, _ := Parse("a\n<?= 1\n?>\n\nb\n<?php ;")
	if got := dump(bare(n), true); got != "file@1(html@1 echo@2(int@2) html@4 empty@6)" {
		t.Error(got)
	}
	n, _ = Parse("")
	if got := dump(n, true); got != "file@1" {
		t.Error(got)
	}
}

// bare is a tree without texts and numbers.
func bare(n api.Node) api.Node {
	told := api.Node{Op: n.Op, Line: n.Line}
	for _, kid := range n.Kids {
		told.Kids = append(told.Kids, bare(kid))
	}
	return told
}
