package show

import (
	"slices"
	"strconv"
	"strings"
	"testing"

	"ostler/api"
	"ostler/tree"
)

const open = "<?php "

// node is a node as trees have it, but for its line.
func node(op, text string, kids ...api.Node) api.Node {
	return api.Node{Op: op, Text: text, Kids: kids}
}

func file(stmts ...api.Node) api.Node {
	return node("file", "", stmts...)
}

// expression is a file of one expression.
func expression(n api.Node) api.Node {
	return file(node("expr", "", n))
}

func number(i int) api.Node {
	return api.Node{Op: "int", Int: i}
}

func variable(word string) api.Node {
	return node("var", word)
}

func parsed(t *testing.T, source string) api.Node {
	t.Helper()
	n, fault := tree.Parse(source)
	if fault != (api.Fault{}) {
		t.Fatalf("Parse(%q): %+v", source, fault)
	}
	return n
}

// checkShow holds a tree's text, or its error, against what is told.
func checkShow(t *testing.T, n api.Node, want string, wantErr api.Errno) {
	t.Helper()
	got, err := Show(n)
	if got != want || err != wantErr {
		t.Errorf("Show(%.300s):\n got %.300q, %v\nwant %.300q, %v", dump(n), got, err, want, wantErr)
	}
}

func dump(n api.Node) string {
	s := "(" + n.Op + " " + strconv.Quote(n.Text) + " " + strconv.Itoa(n.Int)
	for _, kid := range n.Kids {
		if s += dump(kid); len(s) > 1000 {
			return s
		}
	}
	return s + ")"
}

// TestP4_1_Statements: what statements are written as. Each source is laid out as told.
func TestP4_1_Statements(t *testing.T) {
	for _, c := range [][2]string{
		{``, ``},
		{`;`, `; `},
		{`;;`, `; ; `},
		{`{}`, `{ } `},
		{`{;{f();}}`, `{ ; { f(); } } `},
		{`$a;`, `$a; `},
		{`echo 1;`, `echo 1; `},
		{`echo 1,$a , 'b';`, `echo 1, $a, 'b'; `},
		{`return;`, `return; `},
		{`return(1);`, `return 1; `},
		{`throw new A;`, `throw new A(); `},
		{`if($a);`, `if ($a) ; `},
		{`if($a){}else{}`, `if ($a) { } else { } `},
		{`if($a)f();elseif($b)g();elseif($c)h();`, `if ($a) f(); elseif ($b) g(); elseif ($c) h(); `},
		{`if($a)f();elseif($b)g();else h();`, `if ($a) f(); elseif ($b) g(); else h(); `},
		{`if($a)f();else if($b)g();else h();`, `if ($a) f(); else if ($b) g(); else h(); `},
		{`if($a)if($b)f();else g();`, `if ($a) if ($b) f(); else g(); `},
		{`if($a){if($b)f();}else g();`, `if ($a) { if ($b) f(); } else g(); `},
		{`while($a)f();`, `while ($a) f(); `},
		{`do f();while($a);`, `do f(); while ($a); `},
		{`do{}while($a);`, `do { } while ($a); `},
		{`for(;;);`, `for (; ; ) ; `},
		{`for($a=1;$a<2;$a++)f();`, `for ($a = 1; $a < 2; $a++) f(); `},
		{`for(;$a;){}`, `for (; $a; ) { } `},
		{`foreach($a as$v){}`, `foreach ($a as $v) { } `},
		{`foreach([1]as$k=>$v)f();`, `foreach ([1] as $k => $v) f(); `},
		{`switch($a){}`, `switch ($a) { } `},
		{`switch($a){case 1:case B:f();g();default:default:h();}`, `switch ($a) { case 1: case B: f(); g(); default: default: h(); } `},
		{`switch($a){case$b?1:2:;}`, `switch ($a) { case $b ? 1 : 2: ; } `},
		{`break;break 1;break 2;continue;continue 0x10;`, `break 1; break 1; break 2; continue 1; continue 16; `},
		{`break 0;`, `break 0; `},
		{`global$a;global$b,$c;`, `global $a; global $b, $c; `},
		{`static$a;static$b=1+2;`, `static $a; static $b = 1 + 2; `},
		{`unset($a[1]);`, `unset($a[1]); `},
		{`const A=1;`, `const A = 1; `},
		{`try{}`, `try { } `},
		{`try{f();}catch(A$e){g();}`, `try { f(); } catch (A $e) { g(); } `},
		{`try{}catch(A|\B\C|D$e){}catch(E){}finally{h();}`, `try { } catch (A | \B\C | D $e) { } catch (E) { } finally { h(); } `},
		{`try{}finally{}`, `try { } finally { } `},
		{`namespace A\B;`, `namespace A\B; `},
		{`use A;use \B\C as D;`, `use A; use \B\C as D; `},
		{`function f(){}`, `function f() { } `},
		{`function f($a,&$b,$c=1,&$d=[]){g();}`, `function f($a, &$b, $c = 1, &$d = []) { g(); } `},
		{`?>`, ``},
		{`?>a`, "?>\na<?php  "},
		{"?>\n\na\n", "?>\n\na\n<?php  "},
		{`?>a<?=1,2?>b<`, "?>\na<?php  echo 1, 2; ?>\nb<<?php  "},
		{`if($a)?>b<?php {?>c<?php }`, "if ($a) ; ?>\nb<?php  { ?>\nc<?php  } "},
	} {
		checkFormat(t, open+c[0], open+c[1], api.Fault{})
	}
	checkFormat(t, "", open, api.Fault{})
	checkFormat(t, "a", open+"?>\na<?php  ", api.Fault{})
}

func checkFormat(t *testing.T, source, want string, wantFault api.Fault) {
	t.Helper()
	got, fault := Format(source)
	if got != want || fault != wantFault {
		t.Errorf("Format(%.300q):\n got %.300q, %+v\nwant %.300q, %+v", source, got, fault, want, wantFault)
	}
}

// TestP4_1_Classes: what classes and their members are written as.
func TestP4_1_Classes(t *testing.T) {
	for _, c := range [][2]string{
		{`class A{}`, `class A { }`},
		{`abstract class A{}`, `abstract class A { }`},
		{`final class A extends \B{}`, `final class A extends \B { }`},
		{`class A implements B{}`, `class A implements B { }`},
		{`class A extends B implements C,D\E{}`, `class A extends B implements C, D\E { }`},
		{`interface A{}`, `interface A { }`},
		{`interface A extends B,C{}`, `interface A extends B, C { }`},
		{`trait A{}`, `trait A { }`},
		{`class A{const B=1;const C='d';}`, `class A { const B = 1; const C = 'd'; }`},
		{`class A{public$a;public static$b;public$c=1;public static$d=[];}`, `class A { public $a; public static $b; public $c = 1; public static $d = []; }`},
		{`class A{public function f(){}public static function g($a,&$b=1){h();}}`, `class A { public function f() { } public static function g($a, &$b = 1) { h(); } }`},
		{`class A{public function f();public function g($a);}`, `class A { public function f(); public function g($a); }`},
		{`class A{public abstract function f();public abstract static function g($a,$b);}`, `class A { public abstract function f(); public abstract static function g($a, $b); }`},
		{`class A{public final function f(){}public final static function g(){}}`, `class A { public final function f() { } public final static function g() { } }`},
		{`class A{use B;use \C\D,E;use F{}}`, `class A { use B; use \C\D, E; use F; }`},
		{`class A{use B,C{B::f insteadof C;C::f as g;}}`, `class A { use B, C { B::f insteadof C; C::f as g; } }`},
		{`class A{use B{f insteadof C,D;f as g;\B\E::f insteadof C;}}`, `class A { use B { f insteadof C, D; f as g; \B\E::f insteadof C; } }`},
	} {
		checkFormat(t, open+c[0], open+c[1]+" ", api.Fault{})
	}
}

// TestP4_1_Expressions: what expressions are written as, and which operands stand in brackets.
func TestP4_1_Expressions(t *testing.T) {
	for _, c := range [][2]string{
		{`$a=1`, `$a = 1`},
		{`$a+=$b-=$c`, `$a += $b -= $c`},
		{`$a[]??=$b->c%=A::$d.=2`, `$a[] ??= $b->c %= A::$d .= 2`},
		{`$a=&$b`, `$a = &$b`},
		{`[$a]=$b`, `[$a] = $b`},
		{`[$a,$b,]=[1,2]`, `[$a, $b] = [1, 2]`},
		{`include'a'`, `include 'a'`},
		{`include_once$a.'b'`, `include_once $a . 'b'`},
		{`require(require_once'a')`, `require require_once 'a'`},
		{`(include'a')+1`, `(include 'a') + 1`},
		{`$a?1:2`, `$a ? 1 : 2`},
		{`$a?:2`, `$a ? : 2`},
		{`$a?$b=1:$c=2`, `$a ? $b = 1 : $c = 2`},
		{`($a?1:2)?($b?3:4):($c?5:6)`, `($a ? 1 : 2) ? $b ? 3 : 4 : $c ? 5 : 6`},
		{`$a+$b`, `$a + $b`},
		{`1+2*3`, `1 + (2 * 3)`},
		{`(1+2)*3%4`, `((1 + 2) * 3) % 4`},
		{`$a??$b??$c`, `$a ?? ($b ?? $c)`},
		{`$a||$b&&$c==$d<$e.$f-$g`, `$a || ($b && ($c == ($d < ($e . ($f - $g)))))`},
		{`1!=2`, `1 != 2`}, {`1===2`, `1 === 2`}, {`1!==2`, `1 !== 2`}, {`1<=>2`, `1 <=> 2`}, {`1<=2`, `1 <= 2`}, {`1>2`, `1 > 2`}, {`1>=2`, `1 >= 2`},
		{`!$a`, `!$a`},
		{`!!$a`, `!(!$a)`},
		{`-1`, `- 1`},
		{`- -1`, `- (- 1)`},
		{`-++$a`, `- (++$a)`},
		{`--$a`, `--$a`},
		{`clone$a`, `clone $a`},
		{`clone clone$a->b`, `clone (clone $a->b)`},
		{`(INT)$a`, `(int) $a`},
		{`(string)(bool)(array)1`, `(string) ((bool) ((array) 1))`},
		{`$a++`, `$a++`},
		{`$a--+$b++`, `($a--) + ($b++)`},
		{`$a instanceof B`, `$a instanceof B`},
		{`!$a instanceof$b`, `!($a instanceof $b)`},
		{`new A instanceof static`, `(new A()) instanceof static`},
		{`$a[1]`, `$a[1]`},
		{`$a[$b[0]+1]['c']`, `$a[$b[0] + 1]['c']`},
		{`$a->b->c`, `$a->b->c`},
		{`f()`, `f()`},
		{`\a\f(1,$b=2,[3])`, `\a\f(1, $b = 2, [3])`},
		{`$a(1)(2)`, `$a(1)(2)`},
		{`$a[0](1)`, `$a[0](1)`},
		{`A::$b(1)`, `A::$b(1)`},
		{`$a->f()`, `$a->f()`},
		{`$a->f(1,2)->g()`, `$a->f(1, 2)->g()`},
		{`A::f()`, `A::f()`},
		{`static::f(1,2)`, `static::f(1, 2)`},
		{`$a::f()(1)`, `$a::f()(1)`},
		{`new A`, `new A()`},
		{`new$a(1,2)`, `new $a(1, 2)`},
		{`(new static)->f()`, `(new static())->f()`},
		{`A::$b`, `A::$b`}, {`\A::B`, `\A::B`}, {`$a::B[0]`, `$a::B[0]`},
		{`0`, `0`}, {`0x1F`, `31`}, {`9223372036854775807`, `9223372036854775807`},
		{`a\b`, `a\b`},
		{`'a'`, `'a'`}, {`"a\n\x00"`, "'a\n\x00'"}, {`"a'b\\c"`, `'a\'b\\c'`}, {`'\a\''`, `'\\a\''`}, {`''`, `''`},
		{"<<<A\na'\nA", `'a\''`},
		{`[]`, `[]`},
		{`[1,'a'=>2,]`, `[1, 'a' => 2]`},
		{`[fn()=>1=>2,[3]]`, `[fn() => 1 => 2, [3]]`},
		{`[1][0]`, `[1][0]`},
		{`isset($a[0])+empty($b)`, `isset($a[0]) + empty($b)`},
		{`empty($a=1)`, `empty($a = 1)`},
		{`exit`, `exit`}, {`exit()`, `exit`}, {`exit(1)`, `exit(1)`}, {`exit(1)+exit`, `(exit(1)) + (exit)`},
		{`function(){}`, `function() { }`},
		{`function($a,&$b=1)use($c,&$d){f();}`, `function($a, &$b = 1) use ($c, &$d) { f(); }`},
		{`(function(){})()`, `(function() { })()`},
		{`fn()=>1`, `fn() => 1`},
		{`fn($a,&$b=1)=>$a=$b`, `fn($a, &$b = 1) => $a = $b`},
		{`(fn()=>1)()`, `(fn() => 1)()`},
	} {
		checkFormat(t, open+c[0]+";", open+c[1]+"; ", api.Fault{})
	}
}

// TestP4_1_Operands: an operand stands in brackets unless its Op is one of those told, wherever an operand may stand.
func TestP4_1_Operands(t *testing.T) {
	bare := []string{`$a`, `1`, `'a'`, `"$a"`, `a`, `[1]`, `$a[0]`, `$a->b`, `$a->f()`, `f()`, `A::f()`, `A::$b`, `A::B`, `isset($a)`, `empty($a)`}
	inBrackets := []string{`$a = 1`, `$a = &$b`, `[$a] = 1`, `include 1`, `$a ? 1 : 2`, `1 + 2`, `1 ?? 2`, `!$a`, `- 1`, `clone $a`, `++$a`, `(int) 1`, `$a++`, `$a instanceof B`, `new A()`, `exit`, `exit(1)`, `function() { }`, `fn() => 1`}
	around := []string{`O ? 1 : 2`, `O + 1`, `1 + O`, `O ?? 1`, `1 ?? O`, `!O`, `- O`, `clone O`, `(int) O`, `O instanceof B`, `O[0]`, `O->b`, `O->f()`, `O(1)`}
	for _, form := range around {
		for _, operand := range bare {
			if form == `O(1)` && (operand == `$a->b` || operand == `A::B`) {
				continue
			}
			s := open + strings.Replace(form, "O", operand, 1) + "; "
			checkFormat(t, s, s, api.Fault{})
		}
		for _, operand := range inBrackets {
			s := open + strings.Replace(form, "O", "("+operand+")", 1) + "; "
			checkFormat(t, s, s, api.Fault{})
		}
	}
}

// TestP4_1_NoBrackets: what stands where an expression is told stands there without brackets, whatever it is.
func TestP4_1_NoBrackets(t *testing.T) {
	inner := []string{`$a = 1`, `$a = &$b`, `[$a] = 1`, `include 1`, `$a ? 1 : 2`, `$a ? : 2`, `1 + 2`, `1 ?? 2`, `!$a`, `- 1`, `clone $a`, `++$a`, `(int) 1`, `$a++`, `$a instanceof B`, `new A()`, `exit`, `exit(1)`, `function() { }`, `fn() => 1`, `int`}
	around := []string{`E;`, `echo E, E;`, `return E;`, `throw E;`, `if (E) ; elseif (E) ;`, `while (E) ;`, `do ; while (E);`, `for (E; E; E) ;`, `foreach (E as $k => $v) ;`, `switch (E) { case E: ; }`, `static $a = E;`, `const A = E;`, `function f($a = E, $b = E) { }`,
		`class A { const B = E; public $c = E; public function f($a = E, $b = E); }`, `$a += E;`, `[$a] = E;`, `include E;`, `$a ? E : E;`, `$a[E];`, `f(E, E);`, `$a->f(E, E);`, `A::f(E, E);`, `new A(E, E);`, `[E, E => E, E];`, `empty(E);`, `exit(E);`, `function($a = E) { };`, `fn($a = E) => E;`}
	for _, form := range around {
		for _, e := range inner {
			s := open + strings.ReplaceAll(form, "E", e) + " "
			checkFormat(t, s, s, api.Fault{})
		}
	}
}

// TestP4_1_Parts: what texts with variables in them are written as.
func TestP4_1_Parts(t *testing.T) {
	for _, c := range [][2]string{
		{`"$a"`, `"$a"`},
		{`"a$b"`, `"a$b"`},
		{`"$a$b$c"`, `"$a$b$c"`},
		{`"$a b"`, `"$a\x20b"`},
		{`"$a\x5b0]"`, `"$a\x5b0]"`},
		{`"$a\x2d>b"`, `"$a\x2d>b"`},
		{`"$a\x62c\x64"`, `"$a\x62cd"`},
		{`"$a\xABcd\xff"`, "\"$a\\xabcd\xff\""},
		{`"$a\n\n"`, `"$a\x0a\n"`},
		{`"$a\\\\"`, `"$a\x5c\\"`},
		{`"\n\t\r\\\$\"\q'$a"`, `"\n\t\r\\\$\"\\q'$a"`},
		{"\"a\n\x00\x0b$b\"", "\"a\\n\x00\x0b$b\""},
		{`"{$a}"`, `"{$a\x7d"`},
		{`"a$b[0]c"`, `"a$b[0]\x63"`},
		{`"$a[12]$a[-12]"`, `"$a[12]$a[-12]"`},
		{`"$a[99999999999999999999]$a[-99999999999999999999]"`, `"$a[9223372036854775807]$a[-9223372036854775808]"`},
		{`"$a[b]$a[echo]"`, `"$a[b]$a[echo]"`},
		{`"$a[$b]"`, `"$a[$b]"`},
		{`"$a->b->c"`, `"$a->b\x2d>c"`},
		{"<<<A\n\"$a\"\nA", `"\"$a\x22"`},
	} {
		checkFormat(t, open+c[0]+";", open+c[1]+"; ", api.Fault{})
	}
}

// TestP4_1_Lines: lines turn nothing.
func TestP4_1_Lines(t *testing.T) {
	checkFormat(t, "<?php\n\nif\n($a)#b\n{\n/*c*/}", open+"if ($a) { } ", api.Fault{})
	checkShow(t, api.Node{Op: "file", Line: -3, Kids: []api.Node{{Op: "empty", Line: 7}}}, open+"; ", api.OK)
	checkShow(t, api.Node{Op: "file", Kids: []api.Node{}}, open, api.OK)
}

// TestP4_1_Wrong: trees that no file has.
func TestP4_1_Wrong(t *testing.T) {
	a, b := variable("a"), node("block", "")
	for _, n := range []api.Node{
		{},
		node("none", ""),
		node("expr", "", a),
		a,
		node("file", "a"),
		{Op: "file", Int: 1},
		file(api.Node{}),
		file(a),
		file(node("none", "")),
		file(file()),
		file(node("case", "", a)),
		file(node("item", "", a)),
		file(node("expr", "")),
		file(node("expr", "", a, a)),
		file(node("expr", "a", a)),
		file(node("echo", "")),
		file(node("html", "")),
		file(node("html", "a<?php b")),
		file(node("html", "a<?= 1")),
		file(node("html", "a<?php\n")),
		file(node("html", "a"), node("html", "")),
		file(node("html", "a", a)),
		file(node("if", "", a)),
		file(node("if", "", a, node("html", "b"))),
		file(node("if", "", a, node("if", "", a, b), b)),
		file(node("while", "", a)),
		file(node("while", "", a, b, b)),
		file(node("for", "", a, a, a)),
		file(node("foreach", "", a, a, b)),
		file(node("foreach", "", a, number(1), a, b)),
		file(node("switch", "")),
		file(node("switch", "", a, b)),
		file(api.Node{Op: "break", Int: -1}),
		file(node("return", "", node("none", ""))),
		file(node("global", "")),
		file(node("global", "", number(1))),
		file(node("static", "1")),
		file(node("unset", "", number(1))),
		file(node("const", "echo", a)),
		file(node("try", "")),
		file(node("try", "", node("empty", ""))),
		file(node("try", "", b, b)),
		file(node("try", "", b, node("finally", "", b), node("catch", "", node("name", "A"), b))),
		file(node("try", "", b, node("catch", "e", b))),
		file(node("namespace", "")),
		file(node("use", "A", node("name", `B\C`))),
		file(node("function", "f")),
		file(node("function", "f", node("empty", ""))),
		file(node("function", "f", a, b)),
		file(node("function", "f", node("param", "a"))),
		file(node("function", "f", api.Node{Op: "param", Text: "a", Int: 2}, b)),
		file(node("class", "A")),
		file(node("class", "A", node("faces", ""), node("parents", ""))),
		file(api.Node{Op: "class", Text: "A", Int: 3, Kids: []api.Node{node("parents", ""), node("faces", "")}}),
		file(node("class", "A", node("parents", "", node("name", "B"), node("name", "C")), node("faces", ""))),
		file(node("class", "A", node("parents", ""), node("faces", ""), b)),
		file(node("class", "A", node("parents", ""), node("faces", ""), node("method", "f", b, node("param", "a")))),
		file(node("class", "A", node("parents", ""), node("faces", ""), node("traits", ""))),
		file(node("class", "A", node("parents", ""), node("faces", ""), node("traits", "", node("name", "B"), node("as", "f", node("name", "C"))))),
		expression(node("block", "")),
		expression(node("file", "")),
		expression(node("prop", "a", a)),
		expression(node("foo", "")),
		expression(number(-1)),
		expression(number(-1 << 63)),
		expression(variable("")),
		expression(variable("a b")),
		expression(variable(strings.Repeat("a", 65))),
		expression(node("name", "")),
		expression(node("name", "static")),
		expression(node("name", "echo")),
		expression(node("name", "a+b")),
		expression(node("name", "a; b")),
		expression(node("assign", "=", number(1), a)),
		expression(node("assign", "==", a, a)),
		expression(node("assign", "=", a)),
		expression(node("refer", "", a, number(1))),
		expression(node("spread", "", a)),
		expression(node("spread", "")),
		expression(node("include", "echo", a)),
		expression(node("cond", "", a, a)),
		expression(node("bin", "+", a)),
		expression(node("bin", "=", a, a)),
		expression(node("bin", "+ 1 +", a, a)),
		expression(node("bin", "+", a, a, a)),
		expression(node("not", "")),
		expression(node("pre", "++", number(1))),
		expression(node("post", "+", a)),
		expression(node("cast", "float", a)),
		expression(node("cast", "INT", a)),
		expression(node("is", "", a, number(1))),
		expression(node("index", "", a)),
		expression(node("index", "", a, node("none", ""))),
		expression(node("field", "1", a)),
		expression(node("call", "", node("field", "f", a), a)),
		expression(node("call", "", node("classconst", "F", node("name", "A")), a)),
		expression(node("call", "")),
		expression(node("new", "", number(1))),
		expression(node("sfield", "a", node("text", "A"))),
		expression(node("parts", "")),
		expression(node("parts", "", node("text", "a"))),
		expression(node("parts", "", a, node("text", ""))),
		expression(node("parts", "", node("text", "a"), node("text", "b"), a)),
		expression(node("parts", "", node("index", "", node("index", "", a, number(1)), number(1)))),
		expression(node("parts", "", node("index", "", a, node("text", "b c")))),
		expression(node("parts", "", node("index", "", a, node("text", "1")))),
		expression(node("parts", "", node("index", "", a))),
		expression(node("parts", "", node("field", "b", node("field", "c", a)))),
		expression(node("parts", "", number(1))),
		expression(node("list", "", a)),
		expression(node("list", "", node("item", ""))),
		expression(node("list", "", node("item", "", a, a, a))),
		expression(node("isset", "", number(1))),
		expression(node("empty", "", a)),
		expression(node("exit", "", a, a)),
		expression(node("closure", "", b)),
		expression(node("closure", "", node("uses", ""))),
		expression(node("closure", "", node("uses", "", a), b)),
		expression(node("fn", "", node("param", "a"))),
		expression(node("fn", "")),
	} {
		checkShow(t, n, "", api.ErrArg)
	}
}

// TestP4_1_Deep: brackets may be too many for Parse.
func TestP4_1_Deep(t *testing.T) {
	checkFormat(t, open+strings.Repeat("!", 60)+"1;", "", api.Fault{Why: api.ErrArg})
	checkFormat(t, open+"1"+strings.Repeat("+1", 100)+";", "", api.Fault{Why: api.ErrArg})
	deep := variable("a")
	for range 1 << 15 {
		deep = node("not", "", deep)
	}
	checkShow(t, expression(deep), "", api.ErrLong)
	for range 1<<16 - 3 {
		deep = node("foo", "", deep)
	}
	checkShow(t, deep, "", api.ErrLong)
	deep = node("foo", "")
	for range 1<<16 - 1 {
		deep = node("foo", "", deep)
	}
	checkShow(t, deep, "", api.ErrArg)
	checkShow(t, node("foo", "", deep), "", api.ErrLong)
}

// TestP4_1_Nodes: a tree has up to 2^16 nodes.
func TestP4_1_Nodes(t *testing.T) {
	checkShow(t, node("foo", "", node("foo", "", make([]api.Node, 1<<16-2)...)), "", api.ErrArg)
	checkShow(t, node("foo", "", node("foo", "", make([]api.Node, 1<<16-1)...)), "", api.ErrLong)
	checkShow(t, node("foo", "", node("foo", "", make([]api.Node, 1<<20)...)), "", api.ErrLong)
	shared := []api.Node{{}, {}}
	for range 70 {
		n := node("foo", "", shared...)
		shared = []api.Node{n, n}
	}
	checkShow(t, node("foo", "", shared...), "", api.ErrLong)
	endless := make([]api.Node, 1)
	endless[0] = node("not", "", endless...)
	checkShow(t, expression(endless[0]), "", api.ErrLong)
}

// TestP4_1_Long: a text has up to MaxFile bytes, that of a tree that no file has, too.
func TestP4_1_Long(t *testing.T) {
	most := strings.Repeat("a", api.MaxFile-len(open+"''; "))
	checkShow(t, expression(node("text", most)), open+"'"+most+"'; ", api.OK)
	checkShow(t, expression(node("text", most+"a")), "", api.ErrLong)
	checkShow(t, expression(node("text", "'"+most[1:])), "", api.ErrLong)
	checkShow(t, expression(node("text", strings.Repeat("'", 1<<20))), "", api.ErrLong)
	html := strings.Repeat("<", api.MaxFile-len(open+"?>\n<?php  "))
	checkShow(t, file(node("html", html)), open+"?>\n"+html+"<?php  ", api.OK)
	checkShow(t, file(node("html", html+"a")), "", api.ErrLong)
	checkShow(t, file(node("html", html), node("empty", "")), "", api.ErrLong)

	huge := strings.Repeat("a", 1<<20)
	// What is written comes ahead of whether that is a file.
	checkShow(t, node("foo", "", node("expr", "", node("text", most))), "", api.ErrArg)
	checkShow(t, node("foo", "", node("expr", "", node("text", most+"a"))), "", api.ErrLong)
	checkShow(t, expression(node("bin", huge, number(1), number(2))), "", api.ErrLong)
	checkShow(t, expression(variable(huge)), "", api.ErrLong)
	// What can't be written has no bytes, but the blank behind a statement is there.
	checkShow(t, node(huge, huge), "", api.ErrArg)
	checkShow(t, node("text", huge), "", api.ErrArg)
	checkShow(t, file(node("text", huge)), "", api.ErrArg)
	checkShow(t, expression(node("echo", huge, node("text", huge))), "", api.ErrArg)
	checkShow(t, expression(node(huge, "")), "", api.ErrArg)
	checkShow(t, file(node("text", ""), node("expr", "", node("text", most[1:]))), "", api.ErrArg)
	checkShow(t, file(node("text", ""), node("expr", "", node("text", most))), "", api.ErrLong)

	// Many long texts are not put together.
	texts := make([]api.Node, 1<<16-3)
	for i := range texts {
		texts[i] = node("text", huge)
	}
	checkShow(t, file(node("echo", "", texts...)), "", api.ErrLong)
	checkShow(t, expression(node("parts", "", texts...)), "", api.ErrLong)
}

// TestP4_2_Faults: what Format answers where there is no text.
func TestP4_2_Faults(t *testing.T) {
	checkFormat(t, open+"if (", "", api.Fault{Why: api.ErrTok, At: 10})
	checkFormat(t, open+"1 = 2;", "", api.Fault{Why: api.ErrPlace, At: 8})
	checkFormat(t, open+"'a", "", api.Fault{Why: api.ErrOpen, At: 6})
	checkFormat(t, open+"~", "", api.Fault{Why: api.ErrForm, At: 6})
	checkFormat(t, open+"09;", "", api.Fault{Why: api.ErrNum, At: 6})
	checkFormat(t, open+strings.Repeat("{", 65), "", api.Fault{Why: api.ErrDeep, At: 70})
	checkFormat(t, strings.Repeat("a", api.MaxFile+1), "", api.Fault{Why: api.ErrLong})
	checkFormat(t, strings.Repeat("a", api.MaxFile), "", api.Fault{Why: api.ErrLong})
	checkFormat(t, open+strings.Repeat(";", api.MaxFile/2), "", api.Fault{Why: api.ErrLong})
	checkFormat(t, open+"($a->b)(1);", "", api.Fault{Why: api.ErrArg})
	checkFormat(t, open+"(A::B)();", "", api.Fault{Why: api.ErrArg})
	half := (api.MaxFile - len(open)) / 2
	checkFormat(t, open+strings.Repeat(";", half), open+strings.Repeat("; ", half), api.Fault{})
	checkFormat(t, open+strings.Repeat(";", half+1), "", api.Fault{Why: api.ErrLong})
}

func TestExamples(t *testing.T) {
	checkFormat(t, `<?php if($a)echo 1+2*3;`, `<?php if ($a) echo 1 + (2 * 3); `, api.Fault{})
}

// everyForm has nodes of all Ops.
const everyForm = `<?php namespace N; use A as B; abstract class C extends D implements E { const F = 1; public static $g = [1, 'k' => 2]; use T { a insteadof U; T::b as c; } public final function h(&$i, $j = -1) { return $this->k[0]; } }
	function l() { static $m = 1; global $n; foreach ($n as $o => $p) { continue 2; } } try { throw new Q("r$s[0]$t->u"); } catch (V | W $x) {} finally { unset($y[1]); } for (;;) { break; } switch ($z) { case 1: ; default: echo 1 ? 2 : 3; } ?>h<?php
	$a = fn() => exit(1); $b = &$c; [$d, $e] = function () use (&$f) { if (isset($g)) {} elseif (empty($h)) {} else {} }; while (!$i instanceof J) do ++$k; while ($l++ ?? (int) M::$n . O::P . Q::r()); f($s->t(1)); clone $u; include 'v'; const W = -1;`

// turnedOnce yields trees that differ from a tree in one node.
func turnedOnce(n api.Node, yield func(other api.Node)) {
	for _, other := range []api.Node{
		{Op: n.Op + "x", Text: n.Text, Int: n.Int, Kids: n.Kids},
		{Op: n.Op, Text: n.Text + "x", Int: n.Int, Kids: n.Kids},
		{Op: n.Op, Text: n.Text, Int: n.Int + 1, Kids: n.Kids},
		{Op: n.Op, Text: n.Text, Int: -1, Kids: n.Kids},
		{Op: n.Op, Text: n.Text, Int: n.Int},
		{Op: n.Op, Text: n.Text, Int: n.Int, Kids: append(slices.Clone(n.Kids), api.Node{})},
		{Op: n.Op, Text: n.Text, Int: n.Int, Kids: append(slices.Clone(n.Kids), variable("a"))},
	} {
		yield(other)
	}
	for i, kid := range n.Kids {
		other := n
		other.Kids = slices.Delete(slices.Clone(n.Kids), i, i+1)
		yield(other)
		turnedOnce(kid, func(turned api.Node) {
			other.Kids = slices.Clone(n.Kids)
			other.Kids[i] = turned
			yield(other)
		})
	}
}

// TestP4_1_Turned: of a tree that is a bit wrong there is an error, or a text of which Parse is that tree.
func TestP4_1_Turned(t *testing.T) {
	good, wrong := 0, 0
	root := parsed(t, everyForm)
	turnedOnce(root, func(other api.Node) {
		if tree.Same(other, root) {
			return
		}
		text, err := Show(other)
		switch {
		case err == api.ErrArg && text == "":
			wrong++
		case err == api.OK && tree.Same(parsed(t, text), other):
			good++
		default:
			t.Fatalf("Show(%s): %q, %v", dump(other), text, err)
		}
	})
	if good < 100 || wrong < 500 {
		t.Errorf("just %d good ones, %d wrong ones", good, wrong)
	}
}

// TestR4_Show: a tree that is handed in is not written into.
func TestR4_Show(t *testing.T) {
	root := parsed(t, everyForm)
	first, err := Show(root)
	again, _ := Show(root)
	if err != api.OK || again != first || !tree.Same(root, parsed(t, everyForm)) {
		t.Errorf("%q, %v, then %q", first, err, again)
	}
}
