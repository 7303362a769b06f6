package name

import (
	"fmt"
	"strings"
	"testing"

	"ostler/api"
)

// TestP5_2_Namespace: where a namespace statement may stand.
func TestP5_2_Namespace(t *testing.T) {
	checkGood(t, "namespace N;")
	checkGood(t, ";;\n?>text<?php ;namespace N;")
	checkFault(t, "f();\nnamespace N;", api.ErrArg, 3)
	checkFault(t, "namespace N;\nnamespace M;", api.ErrArg, 3)
	checkFault(t, "namespace N;\n\nnamespace N;", api.ErrArg, 4)
	checkFault(t, "{\nnamespace N; }", api.ErrArg, 3)
	checkFault(t, "{ }\nnamespace N;", api.ErrArg, 3)
	checkFault(t, "use A;\nnamespace N;", api.ErrArg, 3)
	checkFault(t, "echo 1;\nnamespace\nN;", api.ErrArg, 3)
	checkFault(t, "function f() { namespace N; }", api.ErrArg, 2)
	checkFault(t, "if (1)\nnamespace N;", api.ErrArg, 3)
	checkFault(t, "const A = function () {\nnamespace N; };", api.ErrArg, 3)
}

// TestP5_2_Use: where a use statement may stand, and of which words.
func TestP5_2_Use(t *testing.T) {
	checkGood(t, "f(); use A; { } use B; use C\\D;")
	checkFault(t, "{\nuse A; }", api.ErrArg, 3)
	checkFault(t, "if (1)\nuse A;", api.ErrArg, 3)
	checkFault(t, "function f() { g();\nuse A; }", api.ErrArg, 3)
	checkFault(t, "switch (1) { case 1:\nuse A; }", api.ErrArg, 3)
	for _, c := range []struct {
		first, second string
		why           api.Errno
	}{
		{`A`, `A`, api.ErrThere},
		{`A\B`, `B`, api.ErrThere},
		{`A\B`, `C\B`, api.ErrThere},
		{`\A`, `A`, api.ErrThere},
		{`A as B`, `B`, api.ErrThere},
		{`A\B`, `C as B`, api.ErrThere},
		{`A as B`, `C as B`, api.ErrThere},
		{`A as self`, `self`, api.ErrThere},
		{`A`, `B`, api.OK},
		{`A`, `a`, api.OK},
		{`A as B`, `A`, api.OK},
		{`A\B`, `A`, api.OK},
		{`A\B`, `A\B as C`, api.OK},
		{`A\BB`, `A\B`, api.OK},
	} {
		line := 0
		if c.why != api.OK {
			line = 4
		}
		checkFault(t, "use "+c.first+"; use X;\n f();\nuse "+c.second+";", c.why, line)
	}
	checkFault(t, "class A { use A; use A; use B; } use A;\n use A;", api.ErrThere, 3)
}

// TestP5_2_There: functions, classes and constants of one name.
func TestP5_2_There(t *testing.T) {
	forms := map[string][]string{
		"function": {"function A() {}", "function A($a) { f(); }"},
		"class":    {"class A {}", "interface A {}", "trait A {}", "abstract class A {}", "final class A extends B {}"},
		"const":    {"const A = 1;", "const A = f();"},
	}
	for kind, firsts := range forms {
		for other, seconds := range forms {
			for _, first := range firsts {
				for _, second := range seconds {
					if kind == other {
						checkFault(t, first+"\n f();\n"+second, api.ErrThere, 4)
						checkFault(t, "namespace N; "+first+"\n\n\n"+second, api.ErrThere, 5)
					} else {
						checkGood(t, first+second)
					}
					checkGood(t, first+"{ "+second+" } if (1) "+second)
					checkGood(t, "{ "+first+" } "+second)
					checkGood(t, "{ "+first+" "+second+" }")
					checkGood(t, "function g() { "+first+" "+second+" }")
					checkGood(t, "{ "+second+" } "+first+" { "+second+" }")
					checkGood(t, first+strings.Replace(second, " A", " a", 1))
				}
			}
		}
	}
	checkFault(t, "class A {} { class A {} }\nclass A {}", api.ErrThere, 3)
	checkGood(t, "class A { const A = 1; const A = 2; public $A; public $A; public function A() {} public function A() {} }")
}

// TestP5_2_Loop: out of how many loops a break and a continue may go.
func TestP5_2_Loop(t *testing.T) {
	loops := []string{"while (1) { %s }", "do { %s } while (1);", "for (;;) { %s }", "foreach ($a as $b) { %s }", "switch (1) { case 1: %s }", "switch (1) { default: { %s } }", "while (1) if (2) { } else { try { %s } finally { } }"}
	for _, word := range []string{"break", "continue"} {
		for _, behind := range []string{"", " 1", " 2", " 0", " 9223372036854775807"} {
			stmt := word + behind + ";"
			checkFault(t, "{\n"+stmt+" }", api.ErrLoop, 3)
			for _, outer := range loops {
				one := api.ErrLoop
				if behind == "" || behind == " 1" {
					one = api.OK
				}
				two := one
				if behind == " 2" {
					two = api.OK
				}
				checkFault(t, fmt.Sprintf(outer, "\n"+stmt), one, lineIf(one, 3))
				checkFault(t, fmt.Sprintf(outer, "")+"\n\n"+stmt, api.ErrLoop, 4)
				for _, inner := range loops {
					checkFault(t, fmt.Sprintf(outer, "\n"+fmt.Sprintf(inner, "\n"+stmt)), two, lineIf(two, 4))
					checkFault(t, fmt.Sprintf(outer, fmt.Sprintf(inner, "")+"\n"+stmt), one, lineIf(one, 3))
				}
			}
		}
	}
}

// lineIf is the line of an error; 0 of none.
func lineIf(why api.Errno, line int) int {
	if why == api.OK {
		return 0
	}
	return line
}

// TestP5_2_LoopWithin: a function's loops are its own.
func TestP5_2_LoopWithin(t *testing.T) {
	for _, form := range []string{"function f() { %s }", "$f = function () { %s };", "class A { public function m() { %s } }", "trait A { public static function m() { %s } }", "fn() => function () { %s };", "f(function ($a) use ($b) { %s });"} {
		checkFault(t, fmt.Sprintf(form, "\nbreak;"), api.ErrLoop, 3)
		checkFault(t, "while (1) { for (;;) {"+fmt.Sprintf(form, "\nbreak;")+" } }", api.ErrLoop, 3)
		checkFault(t, "while (1) { "+fmt.Sprintf(form, "while (2) { break;\n break 2; }")+" }", api.ErrLoop, 3)
		checkFault(t, "while (1) { "+fmt.Sprintf(form, "while (2) { break; }")+"\nbreak 2; }", api.ErrLoop, 3)
		checkGood(t, "while (1) { "+fmt.Sprintf(form, "while (2) { switch (3) { case 4: continue 2; } }")+" break; }")
		checkGood(t, fmt.Sprintf(form, "while (2) break;")+" while (3) continue;")
	}
	checkFault(t, "while (1) { if (2) { foreach ($a as $b) { } \n continue 2; } }", api.ErrLoop, 3)
	checkFault(t, "foreach (f(function () {\n break; }) as $a) ;", api.ErrLoop, 3)
}

// TestP5_2_Clash: variables of params and uses.
func TestP5_2_Clash(t *testing.T) {
	for _, form := range []string{"function f(%s) { }", "$f = function (%s) { };", "fn(%s) => 1;", "class A { public function m(%s) { } }", "interface A { public function m(%s); }", "class A { public function n($a, $b) { } public function m(%s) { } }", "function g($a, $b, $c) { } function f(%s) { }"} {
		checkGood(t, fmt.Sprintf(form, "$a, &$b, $A = 1"))
		checkFault(t, fmt.Sprintf(form, "$a,\n$b,\n$a"), api.ErrClash, 4)
		checkFault(t, fmt.Sprintf(form, "$a,\n&$a, $b"), api.ErrClash, 3)
		checkFault(t, fmt.Sprintf(form, "&$b, $a,\n$a = 1"), api.ErrClash, 3)
		checkFault(t, fmt.Sprintf(form, "$a = [1, -2],\n$b = A::X,\n&\n$b = 1"), api.ErrClash, 4)
	}
	checkGood(t, "function ($a) use ($b, &$c) { };")
	checkGood(t, "function ($a) use ($b) { function ($a) use ($b) { }; fn($a, $b) => 1; };")
	checkFault(t, "function ($a) use (\n$a) { };", api.ErrClash, 3)
	checkFault(t, "function ($a, &$b) use ($c,\n&$b) { };", api.ErrClash, 3)
	checkFault(t, "function () use ($a,\n$b,\n$a) { };", api.ErrClash, 4)
	checkFault(t, "function () use (&$a,\n&$a) { };", api.ErrClash, 3)
	checkFault(t, "fn($a) => function ($b) use ($a,\n$a) { };", api.ErrClash, 3)
	checkGood(t, "function f($a) { global $a, $a; static $a; static $a; foreach ($a as $a => $a) ; [$a, $a] = 1; }")
}

// TestP5_2_This: where the variable of an object may not stand.
func TestP5_2_This(t *testing.T) {
	for _, code := range []string{
		"function f(\n$this) { }", "function f($a,\n&$this = 1) { }", "function (\n$this) { };", "fn(\n$this) => 1;", "class A { public function m(\n$this) { } }",
		"function () use (\n$this) { };", "function ($a) use ($b,\n&$this) { };",
		"\nglobal $this;", "\nglobal $a,\n$this;", "\nglobal $this,\n$a;", "\nstatic $this;", "\nstatic $this = 1;",
		"\nforeach ($a as $this) ;", "\nforeach ($a as $this => $b) ;", "\nforeach ($a as $b =>\n$this) ;",
		"try { }\ncatch (A $this) { }", "try { } catch (A $a) { }\ncatch (A | B\n$this) { } finally { }",
		"$this\n= 1;", "$this\n+= 1;", "$this\n??= 1;", "($this)\n= 1;", "$a = $this\n= 1;", "$a[$this\n= 1];",
		"$this\n= &$a;", "[\n$this, $a]\n= 1;", "[$a,\n$this]\n= 1;", "\n++$this;", "\n--\n$this;", "$this\n++;", "$this\n--;", "\nunset($this);",
	} {
		line := 3
		if strings.HasPrefix(code, "[") {
			line = 2 + strings.Count(code, "\n")
		}
		checkFault(t, code, api.ErrArg, line)
		checkGood(t, strings.ReplaceAll(code, "$this", "$This"))
	}
	checkGood(t, "$this; $a = &$this; $a = $this; [$a] = $this; $this->p = 1; $this[0] = 1; $this[] = 1; $this->p++; ++$this[0]; unset($this->p); unset($this[0]); isset($this); empty($this); echo $this; foreach ($this as $a) $this; A::$this = 1;")
	checkGood(t, "class A { public $this; public function this() { return fn() => $this; } const this = this; } \"$this $this[0] $a[$this]\"; this(); const this = 1; function this() { }")
}

// TestP5_2_Method: which methods have a block.
func TestP5_2_Method(t *testing.T) {
	for _, static := range []string{"", "static "} {
		for _, params := range []string{"()", "($a)", "(&$a, $b = 1)"} {
			plain, abstract, final := "\npublic "+static, "\npublic abstract "+static, "\npublic final "+static
			none, block := "function m"+params+";", "function m"+params+" { f(); }"
			for _, head := range []string{"class A", "abstract class A", "final class A extends B", "trait A", "class interface_"} {
				class := head + " { const X = 1; "
				checkGood(t, class+plain+block+"}")
				checkGood(t, class+final+block+"}")
				checkGood(t, class+abstract+none+"}")
				checkFault(t, class+plain+none+"}", api.ErrArg, 3)
				checkFault(t, class+final+none+"}", api.ErrArg, 3)
				checkFault(t, class+abstract+block+"}", api.ErrArg, 3)
				checkFault(t, class+plain+block+abstract+none+plain+none+"}", api.ErrArg, 5)
			}
			face := "interface A extends B { const X = 1; "
			checkGood(t, face+plain+none+"}")
			for _, wrong := range []string{plain + block, abstract + none, abstract + block, final + none, final + block} {
				checkFault(t, face+wrong+"}", api.ErrArg, 3)
			}
		}
	}
	checkGood(t, "interface A { public function m(); } class B { public function m() { interface C { public function n(); } class D { public function n() { } } } public abstract function o(); public function p() { } }")
	checkFault(t, "class B { public function m() { interface C { public function n(); } class D { public function n() { }\n public function o(); } } }", api.ErrArg, 3)
	checkFault(t, "class B { public function m() { interface C { } }\n public function o(); }", api.ErrArg, 3)
}

// TestP5_2_Fixed: what may be in an expression that stands for what something is at first.
func TestP5_2_Fixed(t *testing.T) {
	good := []string{"1", "'a'", "C", "\\A\\C", "TRUE", "[]", "[1, 'a' => [C]]", "- 1", "!C", "-!-1", "1 + 2 * 3", "'a' . C", "C ?? D", "1 <=> 2", "C && D || !E", "A::X", "self::X", "static::X", "[A::X => A::Y, 1]", "(1)"}
	bad := []string{"$a", "\"$a\"", "f()", "$a->p", "C->p", "$a->f()", "C->f(1)", "A::$p", "A::f()", "$a::X", "new A", "[1][0]", "1 ? 2 : 3", "1 ?: 2", "(int) 1", "$a = 1", "$a = &$b", "[$a] = 1", "++$a", "$a--", "clone C", "C instanceof D", "isset($a)", "empty(1)", "exit", "include 1", "function () { }", "fn() => 1"}
	for _, form := range []string{"\nstatic $a = %s;", "class A {\nconst X = %s; }", "class A {\npublic $p = %s; }", "trait A {\npublic static $p = %s; }", "interface A {\nconst X = %s; }", "function f(\n$a = %s) { }", "function f($b,\n&$a = %s, $c = D) { }", "function (\n$a = %s) { };", "fn(\n$a = %s) => 1;", "class A { public function m(\n$a = %s) { } }"} {
		for _, e := range good {
			checkGood(t, fmt.Sprintf(form, e))
		}
		for _, e := range bad {
			for _, around := range []string{"%s", "[%s]", "[1, 2 => %s]", "[(%s) => 1]", "-(%s)", "1 + (%s)", "(%s) . 'a'", "!![[1 ?? (%s)]]"} {
				checkFault(t, fmt.Sprintf(form, fmt.Sprintf(around, "\n"+e)), api.ErrArg, 3)
			}
		}
	}
	for _, e := range bad {
		checkGood(t, "const X = "+e+"; $b = ["+e+"];")
	}
}

// TestP5_2_Long: names that would mean too many bytes.
func TestP5_2_Long(t *testing.T) {
	space := strings.Repeat("n", 40)
	just, long := strings.Repeat("x", 23), strings.Repeat("x", 24)
	for _, form := range []string{"class A extends\n%s { }", "class A implements B,\n%s { }", "class A { use B,\n%s; }", "class A { use B { m insteadof B,\n%s; } }", "class A { use B {\n%s::m insteadof B; } }", "class A { use B {\n%s::m as c; } }", "try { } catch (A |\n%s $a) { }", "\n%s::X;", "\n%s::$x;", "\n%s::f();", "new\n%s;", "$a instanceof\n%s;", "\n%s();", "\n%s;", "f(1,\n%s);", "\n%s\\B();", "class A {\nconst X = %s; }", "{\nfunction %s() { } }", "{\nclass %s { } }", "{\ninterface %s { } }", "{\nconst %s = 1; }"} {
		word := just
		if strings.Contains(form, `%s\B`) {
			word = just[2:]
		}
		checkGood(t, "namespace "+space+"; "+fmt.Sprintf(form, word))
		checkFault(t, "namespace "+space+"; "+fmt.Sprintf(form, word+"x"), api.ErrLong, 3)
		checkGood(t, fmt.Sprintf(form, word+"x"))
	}
	checkGood(t, "namespace "+space+"; \\"+long+"; new \\"+long+"; use A as "+long+"; $"+long+"; $a->"+long+"(); '"+space+long+"'; class A { use B { m as "+long+"; } public function "+long+"() { } }")
	alias := "use " + space + " as A; new "
	checkGood(t, alias+`A\`+just+";")
	checkFault(t, alias+"A;\nnew A\\"+long+";", api.ErrLong, 3)
	longest := strings.Repeat("n", api.MaxName)
	checkGood(t, "namespace "+longest+"; use B; new B; new \\A; self::X; true; \\f();")
	checkFault(t, "namespace "+longest+";\n A;", api.ErrLong, 3)
	checkGood(t, strings.Repeat("A", 64)+"; \\"+strings.Repeat("A", 63)+";")
}

// TestP5_2_Order: of several faults the one of the first node is told, of one node the one that is named first.
func TestP5_2_Order(t *testing.T) {
	long := strings.Repeat("x", 64)
	for _, c := range []struct {
		code string
		why  api.Errno
		line int
	}{
		{"break;\n$this = 1;", api.ErrLoop, 2},
		{"$this = 1;\nbreak;", api.ErrArg, 2},
		{"$this\n= function () { break; };", api.ErrArg, 3},
		{"foreach (f(function () { break; }) as\n$this) ;", api.ErrArg, 2},
		{"function f($a,\n$a,\n$this) { }", api.ErrClash, 3},
		{"function f($this,\n$this) { }", api.ErrArg, 2},
		{"function f($a,\n$a = f(), $b = f()) { }", api.ErrClash, 3},
		{"function f($a, $b = f(),\n$a) { }", api.ErrArg, 2},
		{"function ($a = fn($b,\n$b) => 1) { };", api.ErrArg, 2},
		{"namespace N; function f() { }\nfunction f($a, $a) { }", api.ErrThere, 3},
		{"namespace N; class " + long[1:] + " { }", api.ErrLong, 2},
		{"namespace N; class A extends\n" + long + " { const X = f(); }", api.ErrLong, 3},
		{"namespace N; class A { const X = f();\nuse " + long + "; }", api.ErrArg, 2},
		{"namespace N; interface I {\npublic function m($a, $a) { break; } }", api.ErrArg, 3},
		{"namespace N; interface I { public function m($a,\n$a); }", api.ErrClash, 3},
		{"namespace N; abstract class I { public function m(\n$this) { break; }\npublic function n(); }", api.ErrArg, 3},
		{"function ($a) use (\n$a,\n$this) { };", api.ErrClash, 3},
		{"function ($this) use (\n$this) { };", api.ErrArg, 2},
		{"use A;\nuse A;\n{ use B; }", api.ErrThere, 3},
		{"use A; {\nuse A; } \nuse A;", api.ErrArg, 3},
		{"class A { }\nnamespace N;\nclass A { }", api.ErrArg, 3},
		{"function ($a) use ($this,\n$this) { };", api.ErrArg, 2},
		{"namespace N; function f() { }\n" + long + "();\nfunction f() { }", api.ErrLong, 3},
		{"do { continue 2; } while (function () {\nbreak; });", api.ErrLoop, 2},
	} {
		checkFault(t, c.code, c.why, c.line)
	}
}

// TestP5_3_Without: without namespace and use statements nothing but backslashes ahead, and true, false and null, is turned.
func TestP5_3_Without(t *testing.T) {
	checkNames(t, `f(); \f(); A\f(); C; \C; A\C; new A; new \A; new A\B; self::X; class A extends \B\C { } function f() { } const C = \D; TRUE; \x\TRUE; True::X;`, `f f A\f C C A\C A A A\B self class:A B\C function:f const:C D true x\TRUE True`)
}
