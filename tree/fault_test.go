package tree

import (
	"strings"
	"testing"

	"ostler/api"
)

// TestP3_1_TokStatements: the first token that can't stand there, in statements.
func TestP3_1_TokStatements(t *testing.T) {
	for _, marked := range []string{
		// Whatever can't begin one.
		"^}", "^)", "^]", "^,", "^:", "^=>", "^as 1;", "^else ;", "^elseif (1) ;", "^catch (A) {}", "^finally {}", "^case 1:", "^default:", "^extends A;", "^implements A;",
		"^insteadof;", "^public $a;", "^and;", "^or;", "^+ 1;", "^* 1;", "^. 1;", "^= 1;", "^& $a;", "^| 1;", "^... 1;", "^== 1;", "^?? 1;", "^? 1 : 2;", "^:: a;", "^-> a;", "^instanceof A;",
		"; ^}", "{} ^}", "{ ; ^)", "1 ^2;", "$a ^$b;", "a ^b;", "1 ^{}", "1 ^)", "1 ^echo 2;", "1 ^'a';",
		"echo ^;", "echo 1, ^;", "echo ^?>", "echo 1 ^2;", "echo (1 ^?>",
		"if ^1;", "if (^) ;", "if (1 ^;", "if (1^, 2) ;", "if (1) ^else ;", "if (1) ; else ; ^else ;", "if (1) ; else ; ^elseif (2) ;", "if (1) ; elseif ^;", "if (1) ; elseif (2) ^else ;", "if (1)^: endif;",
		"if (1) ; ?> <?php ^else ;", "if (1) ; ?><?php ^else ;", "if (1) {} ?><?php ^elseif (2) {}", "if (1) ?>a<?php ^else ?>",
		"while ^;", "while (^) ;", "while (1^; ) ;", "while (1) ^}",
		"do while (1);^", "do ; ^;", "do ; ^?><?php while (1);", "do ; while ^1;", "do ; while (1) ^}", "do {} ^?><?php while (1);",
		"for ^;", "for (^) ;", "for (;^) ;", "for (1^, 2;;) ;", "for (;;^;) ;", "for (;;1^, 2) ;", "for (;;1^; ) ;", "for (1^) ;", "for (;;) ^}", "for (;; ^?>",
		"foreach ^1;", "foreach (^as $a) ;", "foreach (1 ^) ;", "foreach (1 ^=> $a) ;", "foreach (1 as ^&$a) ;", "foreach (1 as ^1) ;", "foreach (1 as ^[$a]) ;", "foreach (1 as $a^[0]) ;", "foreach (1 as $a ^, $b) ;",
		"foreach (1 as $a => ^1) ;", "foreach (1 as $a => $b ^=> $c) ;", "foreach (1 as $a) ^}", "foreach (1 as ^($a)) ;",
		"switch ^{}", "switch (^) {}", "switch (1) ^;", "switch (1) { ^; }", "switch (1) { ^1; }", "switch (1) { ^?> }", "switch (1) { case ^: }", "switch (1) { case 1^; }", "switch (1) { case 1^} }", "switch (1) { default ^1: }", "switch (1) { default^; }",
		"switch (1) { case 1: ^) }", "switch (1) { case 1: ; } ^}", "switch (1) { case 1: { ^case 2: } }", "switch (1) { ^{} }",
		"break ^$a;", "break ^-1;", "break 1 ^2;", "break ^'1';", "break 1^+ 1;", "continue ^a;", "continue ^{}", "break ^(1);",
		"return ^}", "return 1 ^2;", "return ^break;", "throw ^;", "throw 1 ^}", "$a = ^throw 1;",
		"global ^;", "global ^a;", "global $a ^= 1;", "global $a, ^;", "global $a ^$b;", "global ^&$a;",
		"static ^;", "static ^1;", "static ^a;", "static ^fn() => 1;", "static $a ^, $b;", "static $a = ^;", "static $a ^+= 1;", "static $a^::$b;", "static $a^[0];", "$a = static ^$b;", "static ^function () {};", "static ^= 1;",
		"unset ^$a;", "unset(^);", "unset($a ^, $b);", "unset($a) ^}", "unset($a)^[0];", "1 + ^unset($a);",
		"const ^;", "const ^$a = 1;", "const ^\\A = 1;", "const ^A\\B = 1;", "const ^echo = 1;", "const A ^;", "const A ^+= 1;", "const A = ^;", "const A = 1 ^, B = 2;",
		"try ^;", "try {} catch ^A {}", "try {} catch (^) {}", "try {} catch (^$e) {}", "try {} catch (A |^) {}", "try {} catch (A ^B) {}", "try {} catch (A $e ^$f) {}", "try {} catch (A $e) ^;",
		"try {} finally ^;", "try {} finally {} ^catch (A) {}", "try {} finally {} ^finally {}", "try {} ?><?php ^catch (A) {}", "try {} ; ^finally {}", "try {} catch (^static) {}", "try {} catch (A ^, B $e) {}",
		"namespace ^;", "namespace ^{}", "namespace A ^{}", "namespace ^new;", "namespace A^, B;", "namespace ^$a;",
		"use ^;", "use ^$a;", "use A ^, B;", "use A as ^;", "use A as ^B\\C;", "use A as ^\\B;", "use A as ^echo;", "use ^function f;", "use A as B ^as C;",
		"function f ^;", "function f^{}", "function f() ^;", "function f(^1) {}", "function f(^a) {}", "function f(^a $b) {}", "function f($a^$b) {}", "function f($a, ^) {}", "function f(&^) {}", "function f(& ^a) {}", "function f(^&& $a) {}",
		"function f($a = ^) {}", "function f($a ^.= 1) {}", "function f(^...$a) {}", "function f()^: int {}", "function f() ^use ($a) {}", "function ^&f() {}", "function ^f\\g() {}", "function ^echo() {}", "function f() { ^) }",
		"function () ^;", "function () use ^;", "function () use (^) {}", "function () use (^1) {}", "function () use ($a ^$b) {}", "function () use ($a,^) {}", "function () use ($a ^= 1) {}", "function () {} ^1;", "function ^;", "function ^1;",
	} {
		checkMarked(t, api.ErrTok, marked)
	}
}

// TestP3_1_TokClasses: the first token that can't stand there, in classes.
func TestP3_1_TokClasses(t *testing.T) {
	for _, marked := range []string{
		"class ^{}", "class ^\\A {}", "class ^A\\B {}", "class ^echo {}", "class ^$a {}", "class A ^;", "class A extends ^{}", "class A extends ^$a {}", "class A extends ^static {}", "class A extends B ^, C {}",
		"class A implements ^{}", "class A implements B, ^{}", "class A implements B ^C {}", "class A implements B ^extends C {}", "class A extends B ^extends C {}", "class A ^use B {}",
		"abstract ^function f() {}", "abstract ^final class A {}", "final ^abstract class A {}", "abstract ^interface A {}", "final ^trait A {}", "abstract ^abstract class A {}", "final ^;", "abstract ^A;",
		"interface ^;", "interface A ^implements B {}", "interface A extends ^{}", "interface A extends B, ^{}", "trait A ^extends B {}", "trait A ^implements B {}", "trait ^A\\B {}", "new ^class {};",
		"class A { ^; }", "class A { ^?> }", "class A { public ^?> $a; }", "class A { ^1; }", "class A { ^$a; }", "class A { ^static $a; }", "class A { ^function f() {} }", "class A { ^abstract public function f(); }", "class A { ^private $a; }", "class A { ^{} }", "class A { ^echo 1; }",
		"class A { const ^; }", "class A { const ^$a = 1; }", "class A { const ^A\\B = 1; }", "class A { const B ^; }", "class A { const B = ^; }", "class A { const B = 1 ^, C = 2; }", "class A { public ^const B = 1; }",
		"class A { public ^; }", "class A { public ^a; }", "class A { public $a ^, $b; }", "class A { public $a = ^; }", "class A { public $a ^}", "class A { public ^public $a; }", "class A { public static ^static $a; }", "class A { public static ^; }", "class A { public ^class B {} }",
		"class A { public abstract ^$a; }", "class A { public final ^$a; }", "class A { public abstract static ^$a; }", "class A { public final static ^$a; }", "class A { public abstract ^final function f(); }", "class A { public static ^abstract function f(); }", "class A { public static ^final function f(); }", "class A { public abstract ^; }",
		"class A { public function ^; }", "class A { public function ^A\\b() {} }", "class A { public function ^list\\b() {} }", "class A { public function ^new() {} }", "class A { public function f ^; }", "class A { public function f() ^}", "class A { public function f() ^1; }", "class A { public function ^&f() {} }", "class A { public function f() { } ^; }", "class A { public function f(); ^{} }",
		"class A { use ^; }", "class A { use ^$a; }", "class A { use T, ^; }", "class A { use T ^as U; }", "class A { use T ^}", "class A { use T {} ^; }", "class A { use T { ^; } }", "class A { use T { ^$a; } }", "class A { use T { ^?> } }",
		"class A { use T { f ^; } }", "class A { use T { f ^g; } }", "class A { use T { A\\f ^as g; } }", "class A { use T { \\f ^insteadof g; } }", "class A { use T { A\\f ^; } }", "class A { use T { T:: ^; } }", "class A { use T { T::^A\\f as g; } }", "class A { use T { T::^$a as g; } }", "class A { use T { T::T^::f as g; } }",
		"class A { use T { T::f ^; } }", "class A { use T { T::f ^:: g; } }", "class A { use T { ^static::f as g; } }", "class A { use T { f insteadof ^; } }", "class A { use T { f insteadof T, ^; } }", "class A { use T { f insteadof T ^U; } }", "class A { use T { f as ^; } }", "class A { use T { f as ^A\\g; } }", "class A { use T { f as ^public g; } }", "class A { use T { f as g ^, h; } }", "class A { use T { f as g ^} }",
		"class A { } ^}",
	} {
		checkMarked(t, api.ErrTok, marked)
	}
}

// TestP3_1_TokExpressions: the first token that can't stand there, in expressions.
func TestP3_1_TokExpressions(t *testing.T) {
	for _, marked := range []string{
		"$a = ^;", "$a = ^?>", "$a += ^;", "$a = 1 ^2;", "$a + ^;", "1 + ^* 2;", "1 + ^+ 2;", "1 ^& 2;", "1 ^| 2;", "1 ^and 2;", "1 ^or 2;", "1 /**/^$a;", "1 * ^);", "1 . ^;", "1 || ^;",
		"1 == 2 ^== 3;", "1 == 2 ^!== 3;", "1 <=> 2 ^<=> 3;", "1 < 2 ^< 3;", "1 < 2 ^>= 3;", "(1 == 2 ^== 3);",
		"1 ? 2 ^;", "1 ? ^;", "1 ? : ^;", "1 ? 2 : ^;", "1 ?? ^;", "1 ? 2 : 3 ^: 4;", "1 ? 2^, 3;", "1 ^: 2;",
		"!^;", "-^;", "clone ^;", "++^;", "(int) ^;", "(int^, 1);", "- ^+ 1;", "(int) ^= 1;", "((int) ^);",
		"1 + ^include 2;", "!^include 1;", "1 && ^require 1;", "include ^;", "include 1 == 2 ^== 3;", "clone ^require_once 1;",
		"$a instanceof ^;", "$a instanceof ^1;", "$a instanceof ^'B';", "$a instanceof ^(B);", "$a instanceof B ^instanceof C;", "$a instanceof B ^= 1;", "$a instanceof $b ^= 1;", "$a instanceof $b^[0];", "$a instanceof $b^->c;", "$a instanceof $b^::$c;", "$a instanceof ^echo;",
		"$a = $b instanceof C ^instanceof D;", "$a = &$b ^instanceof C;", "$a = &$b ^= 1;", "$a = &$b^[0];", "$a = &$b^->c;", "$a = & ^1;", "$a = & ^f();", "$a = & ^($b);", "$a = ^&& $b;", "$a = & ^new A;", "$a += ^&$b;", "$a ??= ^&$b;",
		"[$a] = ^&$b;", "([$a]) = ^&$b;", "[$a] = ^;",
		"(^);", "(1 ^;", "(1^, 2);", "(1^];", "[^;", "[1 ^;", "[1 ^2];", "[^, 1];", "[1, ^, 2];", "[1,^, 2];", "[1^);", "[1 => ^];", "[1 => 2 ^=> 3];", "[^=> 1];", "[^&$a];", "[^...$a];",
		"$a[^;", "$a[1 ^;", "$a[1^, 2];", "$a[1 ^)];", "$a[1 ^=> 2];", "$a-> ^;", "$a->^$b;", "$a->^1;", "$a->^'b';", "$a->^{};", "$a->^class;", "$a->^A\\b;", "$a->b^::c;", "$a^{0};",
		"f(^;", "f(1 ^;", "f(1, ^);", "f(1 ^2);", "f(^, 1);", "f(1^];", "f(^...$a);", "f(^&$a);", "f(1 ^=> 2);",
		"A:: ^;", "A::^1;", "A::^class;", "A::^\\b;", "A::^a\\b;", "A::b^::c;", "A::$b^::c;", "f()^::b;", "(A)^::b;", "'A'^::b;", "static^;", "static ^();", "$a = static^;", "$a = static ^+ 1;", "static ^-> a;", "self ^self;",
		"new ^;", "new ^1;", "new ^(A);", "new ^'A';", "new A^::b;", "new A(1 ^;", "new A(1,^);", "new ^new A;", "new A ^B;",
		"isset ^$a;", "isset(^);", "isset($a^, $b);", "isset($a ^;", "empty ^$a;", "empty(^);", "empty(1^, 2);", "empty(1 ^;", "exit ^1;", "exit(1 ^;", "exit(1^, 2);", "exit ^$a;",
		"$a = function ^f() {};", "$a = function ^&() {};", "$a = function () ^=> 1;", "fn ^f() => 1;", "fn() ^{};", "fn() => ^;", "fn() ^use ($a) => 1;", "fn(^1) => 1;", "fn^;", "fn() => ^{};",
		"$a = 1 ?>b<?php ^+ 1;", "$a = ^?>b<?php 1;", "$a + ^?>b", "f(1 ^?>b",
	} {
		checkMarked(t, api.ErrTok, marked)
	}
}

// TestP3_1_TokEnd: the file's end is a token that stands almost nowhere.
func TestP3_1_TokEnd(t *testing.T) {
	for _, file := range []string{
		"<?=", "<?= ", "<?= 1", "<?= 1,", "<?= 1 ", "<?php {", "<?php { ; ", "<?php if (", "<?php if", "<?php if (1)", "<?php if (1) ; else", "<?php 1", "<?php 1 // a", "<?php 1 /* a */", "<?php $a =", "<?php $a = &", "<?php [", "<?php [1", "<?php [1,",
		"<?php $a[", "<?php $a->", "<?php f(", "<?php A::", "<?php new", "<?php static", "<?php function", "<?php function f", "<?php function f()", "<?php function f() {", "<?php fn()", "<?php class", "<?php class A", "<?php class A {", "<?php class A { public", "<?php class A { use T {", "<?php class A { use T { f",
		"<?php switch (1) {", "<?php switch (1) { case 1", "<?php switch (1) { case 1:", "<?php do ;", "<?php do ; while (1)", "<?php for (", "<?php for (;;", "<?php foreach (1", "<?php try", "<?php try {", "<?php try {} catch", "<?php break", "<?php return", "<?php global $a", "<?php unset(f()", "<?php unset($a)", "<?php isset(1",
		"<?php { ?>", "<?php { ?>a", "<?php {?>\n", "<?php function f() { ?>a<?php ", "<?php switch (1) { default: ?>", "<?php (int", "<?php (int)", "<?php ++", "<?php 1 ?", "<?php abstract", "<?php const A = 1", "<?php include",
	} {
		checkFault(t, file, api.ErrTok, len(file))
	}
}

// deepCase is a code of something that is put around itself: how often it may be at most, and where the fault is if it is once more: how many bytes behind the beginning of the last open.
type deepCase struct {
	ahead, open, within, close, behind string
	most, at                           int
}

// TestP3_1_Deep: at most MaxDeep statements, expressions and prefixes within one another.
func TestP3_1_Deep(t *testing.T) {
	for _, c := range []deepCase{
		// Statements.
		{"", "{", "", "}", "", 64, 0},
		{"", "{", ";", "}", "", 63, 1},
		{"", "{", "?><?php ", "}", "", 64, 0},
		{"", "{", "?>a<?php ", "}", "", 63, 3},
		{"", "for(;;)", ";", "", "", 63, 7},
		{"", "for(;;)", "?>", "", "", 63, 7},
		{"", "if(1);else ", ";", "", "", 62, 3},
		{"", "if(1)", ";", "", "", 62, 3},
		{"", "while(1)", ";", "", "", 62, 6},
		{"", "foreach($a as $b)", ";", "", "", 62, 8},
		{"", "do ", ";", " while(1);", "", 62, 11},
		{"", "switch(1){default:", ";", "}", "", 62, 7},
		{"", "for(;;)switch(1){case 2:", "", "}", "", 31, 14},
		{"", "function f(){", "", "}", "", 64, 0},
		{"", "class A{public function f(){", "", "}}", "", 64, 0},
		{"", "try{", "", "}", "", 64, 0},
		{"", "try{}finally{", ";", "}", "", 63, 13},
		{"", "try{}catch(A){", ";", "}", "", 63, 14},
		{"", "{", "global $a;", "}", "", 63, 1},
		// Expressions and prefixes: of most two are one more within one another.
		{"", "(", "1", ")", ";", 30, 1},
		{"{", "(", "1", ")", ";}", 30, 1},
		{"", "[", "1", "]", ";", 30, 1},
		{"", "[1=>", "1", "]", ";", 30, 1},
		{"", "f(", "1", ")", ";", 30, 2},
		{"", "f(1,", "1", ")", ";", 30, 2},
		{"", "$a[", "1", "]", ";", 30, 3},
		{"", "$a->b(", "1", ")", ";", 30, 6},
		{"", "A::b(", "1", ")", ";", 30, 5},
		{"", "new A(", "1", ")", ";", 30, 6},
		{"", "empty(", "1", ")", ";", 30, 6},
		{"", "exit(", "1", ")", ";", 30, 5},
		{"", "fn()=>", "1", "", ";", 30, 6},
		{"", "fn($a=1)=>", "1", "", ";", 30, 6},
		{"", "!", "1", "", ";", 61, 1},
		{"", "- ", "1", "", ";", 61, 2},
		{"", "(int)", "1", "", ";", 61, 5},
		{"", "clone ", "1", "", ";", 61, 6},
		{"{", "!", "1", "", ";}", 60, 1},
		{"!", "(", "1", ")", ";", 30, 1},
		{"", "!(", "1", ")", ";", 20, 2},
		{"", "1??", "1", "", ";", 61, 3},
		{"", "1?1:", "1", "", ";", 61, 2},
		{"", "1?", "1", ":1", ";", 61, 2},
		{"", "include ", "1", "", ";", 61, 8},
		{"", "function(){", "", ";}", ";", 21, 0},
		{"class A{const B=", "!", "1", "", ";}", 61, 1},
		{"class A{public $a=", "!", "1", "", ";}", 61, 1},
		{"function f($a=", "!", "1", "", "){}", 61, 1},
		{"static $a=", "!", "1", "", ";", 61, 1},
		{"for(;;", "!", "1", "", ");", 61, 1},
		{"return ", "!", "1", "", ";", 61, 1},
		// What stands ahead of an assignment's sign and behind it, and places in brackets.
		{"", "$a=", "1", "", ";", 30, 3},
		{"", "$a[]=", "1", "", ";", 30, 5},
		{"", "[$a]=", "1", "", ";", 30, 1},
		{"", "$a=", "[$b]=1", "", ";", 29, 4},
		{"", "$a=", "$b=&$c", "", ";", 30, 3},
		{"", "!$a=", "1", "", ";", 20, 4},
		{"", "(", "$a", ")", "=1;", 30, 1},
		{"", "(", "$a", ")", "[]=1;", 30, 1},
		{"", "(", "$a", ")", "=&$b;", 30, 1},
		{"", "(", "$a=1", ")", ";", 29, 4},
		{"", "(", "$a=&$b", ")", ";", 30, 1},
		{"", "(", "++$a", ")", ";", 30, 1},
		{"", "(", "$a++", ")", ";", 30, 1},
		{"unset(", "(", "$a", ")", ");", 30, 1},
		{"", "(", "isset($a)", ")", ";", 29, 7},
		{"++", "(", "$a", ")", ";", 30, 1},
	} {
		checkDeep(t, c)
	}
}

func checkDeep(t *testing.T, c deepCase) {
	t.Helper()
	file := func(n int) string {
		return open + c.ahead + strings.Repeat(c.open, n) + c.within + strings.Repeat(c.close, n) + c.behind
	}
	if _, fault := Parse(file(c.most)); fault != (api.Fault{}) {
		t.Errorf("%q: %+v", file(c.most), fault)
	}
	checkFault(t, file(c.most+1), api.ErrDeep, len(open+c.ahead)+c.most*len(c.open)+c.at)
}

// TestP3_1_DeepWhatever: where one too many would begin, it does not matter what stands there, the file's end too.
func TestP3_1_DeepWhatever(t *testing.T) {
	blocks, brackets := strings.Repeat("{", 64), strings.Repeat("(", 31)
	for _, tok := range []string{"", ";", ")", "]", ",", "=", "else", "case", "1", "$a", "a", "'a'", `"$a"`, "{", "+", "echo", "static", "include", "?", "&"} {
		checkMarked(t, api.ErrDeep, blocks+"^"+tok)
		checkMarked(t, api.ErrDeep, blocks[1:]+"for(;;)^"+tok)
		checkMarked(t, api.ErrDeep, "{"+brackets+"^"+tok)
		if tok == "include" {
			// It begins an Expr, but no Pre.
			checkMarked(t, api.ErrDeep, brackets+"include ^1")
			continue
		}
		checkMarked(t, api.ErrDeep, brackets+"^"+tok)
		if tok != ")" {
			checkMarked(t, api.ErrDeep, brackets[1:]+"f(^"+tok)
		}
		if tok != "]" {
			checkMarked(t, api.ErrDeep, brackets[1:]+"[^"+tok)
			checkMarked(t, api.ErrDeep, brackets[1:]+"$a[^"+tok)
		}
		if tok != "&" {
			checkMarked(t, api.ErrDeep, brackets[1:]+"$a= ^"+tok)
		}
		checkMarked(t, api.ErrDeep, brackets[1:]+"!! ^"+tok)
	}
	checkMarked(t, api.ErrDeep, blocks+"?>^a")
	checkMarked(t, api.ErrDeep, blocks[3:]+"!^")
	checkMarked(t, api.ErrTok, blocks[4:]+"!^")
	checkMarked(t, api.ErrTok, brackets[1:]+"^)")
	checkMarked(t, api.ErrTok, brackets[1:]+"^")
	checkMarked(t, api.ErrTok, brackets[1:]+"f()^")
	checkMarked(t, api.ErrTok, brackets[1:]+"[]^")
	checkMarked(t, api.ErrTok, brackets[1:]+"$a=&^1")
}

// TestP3_1_Place: where what is no place is told.
func TestP3_1_Place(t *testing.T) {
	for _, s := range []string{
		"1", "'a'", `"$a"`, "a", "f()", "$a()", "$a->b()", "A::b", "A::b()", "new A", "[$a][0]", "f()[0]", "$a->b()->c", "A::b[0]", "('a')", "(1 + 2)", "($a = 1)", "(-$a)", "($a ?? $b)[0]", "($a++)",
		"isset($a)", "empty($a)", "exit", "function () {}", "($a instanceof B)", "((int) $a)", "($a ? $b : $c)->d", "(clone $a)", "(fn() => 1)", "(include 1)[0]",
	} {
		for _, sign := range strings.Fields("= += -= *= %= .= ??=") {
			checkMarked(t, api.ErrPlace, s+" ^"+sign+" 1;")
			checkMarked(t, api.ErrPlace, "1 + "+s+" ^"+sign+" )")
			checkMarked(t, api.ErrPlace, s+"[] ^"+sign)
		}
		checkMarked(t, api.ErrPlace, s+" ^= &$a;")
		checkMarked(t, api.ErrPlace, s+" ^++;")
		checkMarked(t, api.ErrPlace, s+" ^-- )")
		checkMarked(t, api.ErrPlace, "1 + ^++"+s+";")
		checkMarked(t, api.ErrPlace, "^--"+s+" )")
		checkMarked(t, api.ErrPlace, "isset^("+s+");")
		checkMarked(t, api.ErrPlace, "unset^("+s+") )")
		checkMarked(t, api.ErrPlace, s+"[]^;")
	}
}

// TestP3_1_PlaceLists: a list is no place, and stands just ahead of a `=`, if it has items, each of them a var without a key.
func TestP3_1_PlaceLists(t *testing.T) {
	for _, list := range []string{"[]", "[1]", "[$a[0]]", "[$a, 1]", "[$a->b, $a]", "[1 => $a]", "[$a => $b]", "[$a, 'k' => $b]", "[[$a]]", "[A::$b]", "[f()]", "[$a = 1]", "([])", "([$a++])"} {
		checkMarked(t, api.ErrPlace, list+" ^= 1;")
		checkMarked(t, api.ErrPlace, "1 . "+list+" ^= )")
		checkMarked(t, api.ErrPlace, list+" ^= &$a;")
	}
	for _, sign := range strings.Fields("+= -= *= %= .= ??= ++ --") {
		checkMarked(t, api.ErrPlace, "[$a] ^"+sign)
		checkMarked(t, api.ErrPlace, "([$a]) ^"+sign)
	}
	checkMarked(t, api.ErrPlace, "^++[$a];")
	checkMarked(t, api.ErrPlace, "isset^([$a]);")
	checkMarked(t, api.ErrPlace, "unset^([$a]);")
}

// TestP3_1_PlaceFirst: which of two faults is told.
func TestP3_1_PlaceFirst(t *testing.T) {
	for _, s := range []string{"$a[0]", "$a[]", "$a->b", "A::$b", "($a[0])"} {
		checkMarked(t, api.ErrPlace, s+" = ^&$b;")
		checkMarked(t, api.ErrPlace, "!"+s+" = ^& )")
	}
	// An assignment's sign, and one behind its operand, as soon as it is met.
	checkMarked(t, api.ErrPlace, "1 ^= 2 = )")
	checkMarked(t, api.ErrPlace, "$a++ ^= 1;")
	checkMarked(t, api.ErrPlace, "-1 ^= 1;")
	checkMarked(t, api.ErrPlace, "1 + 2 ^= 3;")
	checkMarked(t, api.ErrPlace, "fn() => $a instanceof B ^= 1;")
	checkMarked(t, api.ErrPlace, "$a++ ^++;")
	checkMarked(t, api.ErrPlace, "++$a++ ^--;")
	// One ahead as soon as its operand has been read.
	checkMarked(t, api.ErrPlace, "^++f() 1;")
	checkMarked(t, api.ErrTok, "++f(1 ^2);")
	checkMarked(t, api.ErrPlace, "^++$a instanceof B;")
	checkMarked(t, api.ErrTok, "++$a instanceof ^1;")
	checkMarked(t, api.ErrPlace, "^++$a = 1;")
	checkMarked(t, api.ErrTok, "++$a = ^;")
	checkMarked(t, api.ErrPlace, "++^--1;")
	checkMarked(t, api.ErrPlace, "^++ ++$a )")
	checkMarked(t, api.ErrPlace, "^++!$a )")
	checkMarked(t, api.ErrPlace, "^++$a++;")
	checkMarked(t, api.ErrPlace, "^--(int) $a")
	// Of isset and unset with its `)`.
	checkMarked(t, api.ErrTok, "isset(f() ^1);")
	checkMarked(t, api.ErrTok, "isset(f()^")
	checkMarked(t, api.ErrTok, "unset(1^;")
	checkMarked(t, api.ErrPlace, "unset^($a = 1) 1")
	checkMarked(t, api.ErrPlace, "isset^(include 1)")
	checkMarked(t, api.ErrPlace, "isset(isset^(1 + 2)")
	checkMarked(t, api.ErrPlace, "isset^(isset($a))")
	checkMarked(t, api.ErrPlace, "isset^($a[] = 1);")
	checkMarked(t, api.ErrPlace, "^++$a[] = 1;")
	// Ahead of what is too deep, or behind it.
	brackets := strings.Repeat("(", 30)
	checkMarked(t, api.ErrPlace, brackets+"1 ^= 2")
	checkMarked(t, api.ErrDeep, brackets+"$a = ^2 = 1")
	checkMarked(t, api.ErrPlace, brackets+"$a[] = ^& 1")
	checkMarked(t, api.ErrDeep, brackets+"!++^1")
	checkMarked(t, api.ErrDeep, brackets+"isset(^1)")
}

// TestP3_1_Open: a `[ ]` stands just in a place that an assignment's sign follows.
func TestP3_1_Open(t *testing.T) {
	for _, s := range []string{"$a[]", "$a[0][]", "$a[][0]", "$a[]->b", "$a->b[]", "A::$b[]", "$a[][]", "f()[]", "$a[]->b()", "'a'[]", "[1][]", "($a)[]", "$a[$b = 1][]"} {
		for _, tok := range strings.Fields(": ) ] } , ; == ? ?? && . instanceof => as :: 1 $b a echo { ?> ! & + - * %") {
			checkMarked(t, api.ErrPlace, s+" ^"+tok)
		}
		checkMarked(t, api.ErrPlace, s+" ^")
		checkMarked(t, api.ErrPlace, s+"^++;")
		checkMarked(t, api.ErrPlace, s+"(1)^;")
		checkMarked(t, api.ErrPlace, "++"+s+"^;")
		checkMarked(t, api.ErrPlace, "("+s+"^) = 1;")
		checkMarked(t, api.ErrPlace, "(("+s+"^))[0] = 1;")
		checkMarked(t, api.ErrPlace, "isset("+s+"^);")
		checkMarked(t, api.ErrPlace, "unset("+s+"^);")
		checkMarked(t, api.ErrPlace, "["+s+"^] = 1;")
		checkMarked(t, api.ErrPlace, "f("+s+"^);")
		checkMarked(t, api.ErrPlace, "$b = "+s+"^;")
		checkMarked(t, api.ErrPlace, "$b["+s+"^] = 1;")
		checkMarked(t, api.ErrPlace, "foreach ("+s+" ^as $b) ;")
	}
}
