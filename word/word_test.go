package word

import (
	"reflect"
	"strings"
	"testing"

	"ostler/api"
)

func isVar(s string) api.Tok  { return api.Tok{Kind: api.TokVar, Text: s} }
func isName(s string) api.Tok { return api.Tok{Kind: api.TokName, Text: s} }
func isInt(n int) api.Tok     { return api.Tok{Kind: api.TokInt, Int: n} }
func isHtml(s string) api.Tok { return api.Tok{Kind: api.TokHtml, Text: s} }

func isParts(parts ...api.Part) api.Tok { return api.Tok{Kind: api.TokParts, Parts: parts} }

func plain(s string) api.Part         { return api.Part{Kind: api.PartText, Text: s} }
func bare(s string) api.Part          { return api.Part{Kind: api.PartVar, Text: s} }
func atInt(s, key string) api.Part    { return api.Part{Kind: api.PartInt, Text: s, Key: key} }
func atKey(s, key string) api.Part    { return api.Part{Kind: api.PartKey, Text: s, Key: key} }
func atBy(s, key string) api.Part     { return api.Part{Kind: api.PartBy, Text: s, Key: key} }
func ofObject(s, key string) api.Part { return api.Part{Kind: api.PartProp, Text: s, Key: key} }

// put is a token at its place and line.
func put(tok api.Tok, at, line int) api.Tok {
	tok.At, tok.Line = at, line
	return tok
}

func sameToks(a, b []api.Tok) bool {
	if len(a) != len(b) {
		return false
	}
	for i := range a {
		if len(a[i].Parts) == 0 && len(b[i].Parts) == 0 {
			a[i].Parts, b[i].Parts = nil, nil
		}
		if !reflect.DeepEqual(a[i], b[i]) {
			return false
		}
	}
	return true
}

// placeless is tokens without At and Line.
func placeless(toks []api.Tok) []api.Tok {
	var told []api.Tok
	for _, tok := range toks {
		told = append(told, put(tok, 0, 0))
	}
	return told
}

// checkFile holds a file's tokens, with their places, against those that it should have.
func checkFile(t *testing.T, file string, want ...api.Tok) {
	t.Helper()
	got, fault := Tokens(file)
	if fault != (api.Fault{}) || !sameToks(got, want) {
		t.Errorf("Tokens(%q): %+v, %+v; want %+v", file, got, fault, want)
	}
}

const open = "<?php "

// checkCode holds the kinds and texts of a code's tokens against those that it should have.
func checkCode(t *testing.T, code string, want ...api.Tok) {
	t.Helper()
	got, fault := Tokens(open + code)
	if fault != (api.Fault{}) || !sameToks(placeless(got), want) {
		t.Errorf("Tokens of code %q: %+v, %+v; want %+v", code, got, fault, want)
	}
}

// checkFault holds a code's fault against the one that it should have, at a byte of the code.
func checkFault(t *testing.T, code string, why api.Errno, at int) {
	t.Helper()
	want := api.Fault{Why: why, At: len(open) + at}
	if got, fault := Tokens(open + code); fault != want || len(got) != 0 {
		t.Errorf("Tokens of code %q: %+v, %+v; want %+v", code, got, fault, want)
	}
}

// TestP2_1_Pieces: the tokens of a file, piece by piece.
func TestP2_1_Pieces(t *testing.T) {
	checkFile(t, "")
	checkFile(t, "a\nb", put(isHtml("a\nb"), 0, 1))
	checkFile(t, "?>", put(isHtml("?>"), 0, 1))
	checkFile(t, "<?php")
	checkFile(t, "<?php ")
	checkFile(t, "<?php ?>", put(sign("?>"), 6, 1))
	checkFile(t, "<?=?>", put(sign("echo"), 3, 1), put(sign("?>"), 3, 1))
	checkFile(t, "<?=", put(sign("echo"), 3, 1))
	checkFile(t, "<?=\n1", put(sign("echo"), 3, 1), put(isInt(1), 4, 2))
	checkFile(t, `<?php echo "a$b[0]\n";`,
		put(sign("echo"), 6, 1),
		put(isParts(plain("a"), atInt("b", "0"), plain("\n")), 11, 1),
		put(sign(";"), 21, 1))
	checkFile(t, "a\n<?php\n$b ?>\n\n<?= 1\n?>\r\nc<?php ;",
		put(isHtml("a\n"), 0, 1),
		put(isVar("b"), 8, 3),
		put(sign("?>"), 11, 3),
		put(isHtml("\n"), 14, 4),
		put(sign("echo"), 18, 5),
		put(isInt(1), 19, 5),
		put(sign("?>"), 21, 6),
		put(isHtml("c"), 25, 7),
		put(sign(";"), 32, 7))
	// What spans lines is on the line on which it begins.
	checkFile(t, "<?php 'a\nb' <<<A\nc\nA /*\n*/ 1",
		put(text("a\nb"), 6, 1),
		put(text("c"), 12, 2),
		put(isInt(1), 27, 5))
	// A `?>` in a text, a comment or a long text ends nothing; in a remark it does.
	checkFile(t, "<?php '?>' /*?>*/ # a ?>b",
		put(text("?>"), 6, 1), put(sign("?>"), 22, 1), put(isHtml("b"), 24, 1))
}

// TestP2_1_Between: blanks, comments and remarks between tokens.
func TestP2_1_Between(t *testing.T) {
	one, two := isInt(1), isInt(2)
	for _, gap := range []string{
		" ", "\t", "\n", "\r", "\r\n", " \t\r\n ", "/**/", "/***/", "/*/*/", "/*'*/", "/* \n */", "/*#*/", "/*//*/", "/**//**/", "#\n", "//\n",
		"# a\n", "// 'a\n", "# /*\n", "// <<<A\n", "# \xff\n", "#\r\n", "# a\r b\n", "//\n#\n/* */ //\n", "/*?>*/",
	} {
		checkCode(t, "1"+gap+"2", one, two)
		checkCode(t, gap+"1"+gap+gap+"2"+gap, one, two)
	}
	checkCode(t, "1#2", one)
	checkCode(t, "1//2\r3", one)
	checkCode(t, "1/*2*/", one)
	checkCode(t, "1#2?>3", one, sign("?>"), isHtml("3"))
	checkCode(t, "1//2?>3", one, sign("?>"), isHtml("3"))
	checkCode(t, "#")
	checkCode(t, "//")
	checkCode(t, "/**/")
	checkFault(t, "*/", api.ErrForm, 1)
	checkFault(t, "/**/*/", api.ErrForm, 5)
}

func TestP2_1_Variables(t *testing.T) {
	for _, word := range []string{"a", "A", "z", "Z", "_", "a0", "_9", "aB_c", "this", "echo", "Class", strings.Repeat("v", api.MaxName)} {
		checkCode(t, "$"+word, isVar(word))
	}
	checkCode(t, "$a$b", isVar("a"), isVar("b"))
	checkCode(t, "$a\\b", isVar("a"), isName("\\b"))
	for _, code := range []string{"$", "$ a", "$$a", "$0", "$1a", "$\\a", "$-", "$\xc3\xa9", "$'a'", "${a}"} {
		checkFault(t, code, api.ErrForm, 0)
	}
	checkFault(t, "$a$", api.ErrForm, 2)
	checkFault(t, "$a\x80", api.ErrForm, 2)
	checkFault(t, "1 $"+strings.Repeat("v", api.MaxName+1), api.ErrLong, 2)
	checkFault(t, "$"+strings.Repeat("v", 3*api.MaxName)+"$", api.ErrLong, 0)
}

const keywords = "abstract and as break case catch class clone const continue default do echo else elseif empty exit extends final finally fn for foreach function global if implements include include_once instanceof insteadof interface isset namespace new or public require require_once return static switch throw trait try unset use while"

// notKeywords are names that are near keywords, or are ones elsewhere.
const notKeywords = "a echos ech echo_ echo1 _echo Bar null true false self parent int string private protected readonly enum match xor print list array callable goto die eval endif declare switched ifs elsif var yield finaly includeonce"

func TestP2_1_Keywords(t *testing.T) {
	for _, word := range strings.Fields(keywords) {
		title := strings.ToUpper(word[:1]) + word[1:]
		for _, s := range []string{word, strings.ToUpper(word), title} {
			checkCode(t, s, sign(word))
			checkCode(t, s+";", sign(word), sign(";"))
			// With a `\` ahead or behind, or a byte of a word, it is part of a name.
			for _, name := range []string{"\\" + s, s + "\\a", "a\\" + s, s + "\\" + s, s + "x", "x" + s, s + "_", s + "1"} {
				if !strings.Contains(" "+keywords+" ", " "+strings.ToLower(name)+" ") {
					checkCode(t, name, isName(name))
				}
			}
			checkFault(t, s+"\\", api.ErrForm, len(s))
			checkCode(t, s+" \\a", sign(word), isName("\\a"))
		}
	}
	for _, word := range strings.Fields(notKeywords) {
		checkCode(t, word, isName(word))
	}
}

func TestP2_1_Names(t *testing.T) {
	most := strings.Repeat("n", api.MaxName)
	for _, name := range []string{
		"a", "Z", "_", "_a9", "\\a", "a\\b", "\\a\\b\\c", "A\\_0\\ECHO", "\\new", "New\\x", most, "\\" + most[1:], most[2:] + "\\x",
	} {
		checkCode(t, name, isName(name))
		checkCode(t, name+"("+name, isName(name), sign("("), isName(name))
	}
	checkCode(t, "a \\b", isName("a"), isName("\\b"))
	checkCode(t, "1 a", isInt(1), isName("a"))
	// A `\` behind which no word stands, however long the name is.
	checkFault(t, "\\", api.ErrForm, 0)
	checkFault(t, "\\ a", api.ErrForm, 0)
	checkFault(t, "\\\\a", api.ErrForm, 0)
	checkFault(t, "\\0", api.ErrForm, 0)
	checkFault(t, "\\$a", api.ErrForm, 0)
	checkFault(t, "a\\", api.ErrForm, 1)
	checkFault(t, "a\\\\b", api.ErrForm, 1)
	checkFault(t, "a\\1", api.ErrForm, 1)
	checkFault(t, "a\\b\\ c", api.ErrForm, 3)
	checkFault(t, "\\a\\b\\?>", api.ErrForm, 4)
	checkFault(t, "echo\\;", api.ErrForm, 4)
	checkFault(t, most+"nn\\", api.ErrForm, api.MaxName+2)
	checkFault(t, most+"\\a\\;", api.ErrForm, api.MaxName+2)
	// Names that are too long.
	checkFault(t, "; "+most+"n", api.ErrLong, 2)
	checkFault(t, "\\"+most, api.ErrLong, 0)
	checkFault(t, most+"\\a", api.ErrLong, 0)
	checkFault(t, most[1:]+"\\a", api.ErrLong, 0)
	checkFault(t, most+"n\x80", api.ErrLong, 0)
}

func TestP2_1_Numbers(t *testing.T) {
	for code, want := range map[string]int{
		"0": 0, "1": 1, "9": 9, "10": 10, "1234567890": 1234567890,
		"9223372036854775807": 1<<63 - 1, "9223372036854775799": 1<<63 - 9,
		"0x0": 0, "0x1F": 31, "0XfF": 255, "0xabcdef": 0xabcdef, "0xABCDEF": 0xabcdef, "0x0123456789": 0x123456789,
		"0x7fffffffffffffff": 1<<63 - 1, "0x00000000000000000000000000000001": 1,
	} {
		checkCode(t, code, isInt(want))
		checkCode(t, "-"+code+".", sign("-"), isInt(want), sign("."))
	}
	checkCode(t, "1.5", isInt(1), sign("."), isInt(5))
	checkCode(t, "0 1", isInt(0), isInt(1))
	checkCode(t, "1...2", isInt(1), sign("..."), isInt(2))
	checkCode(t, "1$a", isInt(1), isVar("a"))
	checkCode(t, "1\\a", isInt(1), isName("\\a"))
	for _, code := range []string{
		"9223372036854775808", "9223372036854775810", "18446744073709551616", "99999999999999999999999999",
		"0x8000000000000000", "0xffffffffffffffff", "0x10000000000000000",
		"00", "01", "08", "0_", "0a", "0x", "0X", "0xg", "0x_", "0xx1", "0x1g", "0x1G", "0x1_", "0x1x", "0b1", "0o7",
		"1a", "1Z", "1_", "1_000", "1e3", "1x1", "12ab", "9z", "10A", "1_\x80", "99999999999999999999a",
	} {
		checkFault(t, code, api.ErrNum, 0)
		checkFault(t, "1 +"+code+" $", api.ErrNum, 3)
	}
	checkFault(t, "1\xc3\xa9", api.ErrForm, 1)
}

const allSigns = "<=> === !== ... ??= == != <= >= && || ?? ++ -- += -= *= %= .= -> => :: ( ) [ ] { } ; , . + - * % < > ! = ? : & |"

func TestP2_1_Signs(t *testing.T) {
	for _, s := range strings.Fields(allSigns) {
		checkCode(t, s, sign(s))
		checkCode(t, "$a"+s+"$b", isVar("a"), sign(s), isVar("b"))
	}
	// Each is as long as can be.
	for code, want := range map[string]string{
		"<==>": "<= =>", "====": "=== =", "=====": "=== ==", "!===": "!== =", "!!=": "! !=", "....": "... .", "..": ". .", ".....": "... . .", "...=": "... =", "..=": ". .=",
		"???": "?? ?", "????=": "?? ??=", "??==": "??= =", "?->": "? ->", "?:": "? :", "? >": "? >", "<=>=": "<=> =", "<<": "< <", "<<<": "< < <", ">>=": "> >=", "<>": "< >",
		"&&&": "&& &", "|||": "|| |", "&=": "& =", "|=": "| =", "+++": "++ +", "---": "-- -", "-->": "-- >", "--->": "-- ->", "->>": "-> >", "**": "* *", "**=": "* *=",
		"%%=": "% %=", "==>": "== >", "=>>": "=> >", ":::": ":: :", "[]": "[ ]", "({[": "( { [", "+-": "+ -", "-=>": "-= >", "*=>": "*= >", "::=": ":: =", "!!": "! !",
	} {
		var toks []api.Tok
		for _, s := range strings.Fields(want) {
			toks = append(toks, sign(s))
		}
		checkCode(t, code, toks...)
	}
}

// TestP2_1_NoToken: bytes in code with which no token begins.
func TestP2_1_NoToken(t *testing.T) {
	begins := "()[]{};,.+-*%<>!=?:&|#'\"$\\/ \t\r\n_0123456789"
	for b := range 256 {
		s := string([]byte{byte(b)})
		isLetter := 'a' <= b && b <= 'z' || 'A' <= b && b <= 'Z'
		if !isLetter && !strings.Contains(begins, s) {
			checkFault(t, s, api.ErrForm, 0)
			checkFault(t, "1 "+s+"1", api.ErrForm, 2)
		}
	}
	for _, code := range []string{"/", "/ 2", "/=", "/ /", "^", "~", "@f", "`", "\v", "\f", "\x00", "\u00a0", "\u2028", "\ufeff", "\ufffd", "é", "\u212a"} {
		checkFault(t, ";"+code, api.ErrForm, 1)
	}
	checkFault(t, "echo 1; ^ 2 ^ 'a", api.ErrForm, 8)
}

func TestP2_1_PlainTexts(t *testing.T) {
	for code, want := range map[string]string{
		`''`: "", `'a'`: "a", `'a b'`: "a b", `'\''`: "'", `'\\'`: `\`, `'\\\''`: `\'`, `'\\\\'`: `\\`, `'a\'b\\c'`: `a'b\c`,
		`'\n\t\$\x41\"'`: `\n\t\$\x41\"`, `'$a $b[0]'`: `$a $b[0]`, `'"'`: `"`, "'\n\r'": "\n\r", "'\xff\x00\xc3'": "\xff\x00\xc3", `'/*#?>'`: `/*#?>`, "'<<<A\n'": "<<<A\n",
		"'\\\xc3\xa9'": "\\\xc3\xa9", "'$a['": "$a[",
	} {
		checkCode(t, code, text(want))
		checkCode(t, code+code+"1", text(want), text(want), isInt(1))
	}
	long := strings.Repeat("a", 3000)
	checkCode(t, "'"+long+"'", text(long))
	for _, code := range []string{`'`, `'a`, `'\'`, `'\\\'`, `'a"`, `'\`, "'a?>b", "'a\n"} {
		checkFault(t, code, api.ErrOpen, 0)
		checkFault(t, "1;"+code, api.ErrOpen, 2)
	}
}

func TestP2_1_Escapes(t *testing.T) {
	for in, want := range map[string]string{
		``: "", `a`: "a", `a 'b'`: "a 'b'", `\n\t\r\\\$`: "\n\t\r\\$", `\na\tb\rc\\d\$e`: "\na\tb\rc\\d$e", `\\n`: `\n`, `\\\n`: "\\\n", `\$a`: "$a", `\\\$a`: `\$a`,
		`\x41`: "A", `\x4a\x4B`: "JK", `\x4`: "\x04", `\x4g`: "\x04g", `\x414`: "A4", `\xff\x0`: "\xff\x00", `\xa\xF`: "\n\x0f", `\xAf`: "\xaf", `\xfA`: "\xfa",
		`\x`: `\x`, `\xg`: `\xg`, `\xG1`: `\xG1`, `\X41`: `\X41`, `\x 1`: `\x 1`, `\x\x41`: `\xA`, `\x-1`: `\x-1`,
		`\a\b\e\f\v\0\1\u{41}\'\N`: `\a\b\e\f\v\0\1\u{41}\'\N`, `\[`: `\[`, `\ `: `\ `,
		`$`: "$", `$ a`: "$ a", `$1`: "$1", `$[`: "$[", `$$`: "$$", `a$`: "a$", `$->a`: "$->a", `[0]->a`: "[0]->a", "$\xc3\xa9": "$\xc3\xa9", `$\n`: "$\n", `$\$a`: "$$a", `{$}`: "{$}",
		"\n": "\n", "\xff\xc3": "\xff\xc3", `/*#?>`: `/*#?>`, `\n\`: "\n\\", `#`: "#",
	} {
		checkCode(t, "<<<A\n"+in+"\nA", text(want))
		if !strings.HasSuffix(in, `\`) {
			checkCode(t, `"`+in+`"`, text(want))
		}
	}
	// `\"` is `"` just where it stands in `"`.
	checkCode(t, `"\"\"a\\\""`, text(`""a\"`))
	checkCode(t, "<<<A\n\"\\\"\nA", text(`"\"`))
	checkCode(t, "<<<A\n\\\nA", text(`\`))
	checkCode(t, "<<<A\n\\x\nA", text(`\x`))
	checkCode(t, "<<<A\n\\x4\nA", text("\x04"))
	checkCode(t, `"\x4"`, text("\x04"))
	checkCode(t, `"a""b"`, text("a"), text("b"))
}

func TestP2_1_Parts(t *testing.T) {
	for in, want := range map[string]api.Tok{
		`$a`:            isParts(bare("a")),
		`$a$b`:          isParts(bare("a"), bare("b")),
		`x$a`:           isParts(plain("x"), bare("a")),
		`$a x`:          isParts(bare("a"), plain(" x")),
		`x$a y$_Z9.z`:   isParts(plain("x"), bare("a"), plain(" y"), bare("_Z9"), plain(".z")),
		`$echo`:         isParts(bare("echo")),
		`$a\b`:          isParts(bare("a"), plain(`\b`)),
		`$a\n\t`:        isParts(bare("a"), plain("\n\t")),
		`\n$a`:          isParts(plain("\n"), bare("a")),
		`\\$a`:          isParts(plain(`\`), bare("a")),
		`\$a$a`:         isParts(plain("$a"), bare("a")),
		`\x41$a`:        isParts(plain("A"), bare("a")),
		`\x$a`:          isParts(plain(`\x`), bare("a")),
		`$$a`:           isParts(plain("$"), bare("a")),
		`$1$a$`:         isParts(plain("$1"), bare("a"), plain("$")),
		`{$a}`:          isParts(plain("{"), bare("a"), plain("}")),
		`${a}$b`:        isParts(plain("${a}"), bare("b")),
		"$a\xc3\xa9":    isParts(bare("a"), plain("\xc3\xa9")),
		`$a[0]`:         isParts(atInt("a", "0")),
		`$a[0][1]`:      isParts(atInt("a", "0"), plain("[1]")),
		`$a[0]->b`:      isParts(atInt("a", "0"), plain("->b")),
		`$a[7]x`:        isParts(atInt("a", "7"), plain("x")),
		`$a[-1]`:        isParts(atInt("a", "-1")),
		`$a[-90]`:       isParts(atInt("a", "-90")),
		`$a[10]`:        isParts(atInt("a", "10")),
		`$a[b]`:         isParts(atKey("a", "b")),
		`$a[_b9]$c`:     isParts(atKey("a", "_b9"), bare("c")),
		`$a[new]`:       isParts(atKey("a", "new")),
		`$a[$b]`:        isParts(atBy("a", "b")),
		`$a[$b][$c]`:    isParts(atBy("a", "b"), plain("["), bare("c"), plain("]")),
		`$a->b`:         isParts(ofObject("a", "b")),
		`$a->b->c`:      isParts(ofObject("a", "b"), plain("->c")),
		`$a->b[0]`:      isParts(ofObject("a", "b"), plain("[0]")),
		`$a->new()`:     isParts(ofObject("a", "new"), plain("()")),
		`$a->`:          isParts(bare("a"), plain("->")),
		`$a->1`:         isParts(bare("a"), plain("->1")),
		`$a->$b`:        isParts(bare("a"), plain("->"), bare("b")),
		`$a-> b`:        isParts(bare("a"), plain("-> b")),
		`$a - b`:        isParts(bare("a"), plain(" - b")),
		`$a-`:           isParts(bare("a"), plain("-")),
		`$a->[0]`:       isParts(bare("a"), plain("->[0]")),
		`$a?->b`:        isParts(bare("a"), plain("?->b")),
		`$a::b`:         isParts(bare("a"), plain("::b")),
		`$a [0]`:        isParts(bare("a"), plain(" [0]")),
		`$a\[0]`:        isParts(bare("a"), plain(`\[0]`)),
		`$a]`:           isParts(bare("a"), plain("]")),
		`$a[0] $b[c]d`:  isParts(atInt("a", "0"), plain(" "), atKey("b", "c"), plain("d")),
		`'$a' #$b /*`:   isParts(plain("'"), bare("a"), plain("' #"), bare("b"), plain(" /*")),
		"\n$a\r\n$b\n":  isParts(plain("\n"), bare("a"), plain("\r\n"), bare("b"), plain("\n")),
		`$a->b$a[b]$a.`: isParts(ofObject("a", "b"), atKey("a", "b"), bare("a"), plain(".")),
	} {
		checkCode(t, `"`+in+`"`, want)
		checkCode(t, "<<<A\n"+in+"\nA;", want, sign(";"))
		checkCode(t, `'`+strings.ReplaceAll(strings.ReplaceAll(in, `\`, `\\`), `'`, `\'`)+`'`, text(in))
		checkCode(t, "<<<'A'\n"+in+"\nA", text(in))
	}
	huge := strings.Repeat("9", 100)
	checkCode(t, `"$a[`+huge+`]$a[-`+huge+`]"`, isParts(atInt("a", huge), atInt("a", "-"+huge)))
}

// TestP2_1_Elements: a `[` behind a variable that is not as told.
func TestP2_1_Elements(t *testing.T) {
	for _, in := range []string{
		`[`, `[]`, `[ 0]`, `[0 ]`, `[00]`, `[01]`, `[-0]`, `[-01]`, `[--1]`, `[-]`, `[+1]`, `[1a]`, `[0x1]`, `[a b]`, `[a-b]`, `[-a]`, `[\a]`, `[a\b]`,
		`['a']`, `[$]`, `[$1]`, `[$a`, `[$$a]`, `[$a[0]]`, `[$a->b]`, `[0`, `[a`, `[0[`, `[[0]]`, `[{a}]`, `[1.5]`, `[é]`, "[a\n]", `[\x30]`,
	} {
		checkFault(t, `"$x`+in+`"`, api.ErrForm, 3)
		checkFault(t, `"`+in+` $xyz`+in+`$`+in+`";`, api.ErrForm, len(in)+6)
		checkFault(t, "<<<A\n$x"+in+"\nA", api.ErrForm, 7)
		checkCode(t, "<<<'A'\n$x"+in+"\nA", text("$x"+in))
	}
	checkFault(t, `"$x["a"]"`, api.ErrForm, 3)
	checkFault(t, `1 . "$x[\"a\"]"`, api.ErrForm, 7)
	checkFault(t, "<<<A\n$x[\"a\"]\nA", api.ErrForm, 7)
	checkFault(t, "<<<A\n$x[a\nA]\nA", api.ErrForm, 7)
}

func TestP2_1_LongTexts(t *testing.T) {
	name := strings.Repeat("n", 3*api.MaxName)
	for _, head := range []string{"<<<A\n", "<<<'A'\n"} {
		checkCode(t, head+"A", text(""))
		checkCode(t, head+"\nA", text(""))
		checkCode(t, head+"\n\nA", text("\n"))
		checkCode(t, head+"a\nA;", text("a"), sign(";"))
		checkCode(t, head+"a\n\nA;", text("a\n"), sign(";"))
		checkCode(t, head+" a\n b \nA . 1", text(" a\n b "), sign("."), isInt(1))
		checkCode(t, head+"a\r\nA", text("a\r"))
		checkCode(t, head+" A\nAA\nA_\nA1\na\nxA\nA-1", text(" A\nAA\nA_\nA1\na\nxA"), sign("-"), isInt(1))
		checkCode(t, head+"' \" /* # ?>\nA'a'", text("' \" /* # ?>"), text("a"))
		checkCode(t, head+"a\nA A", text("a"), isName("A"))
		checkCode(t, head+"a\nA"+head+"b\nA", text("a"), text("b"))
		checkCode(t, head+"a\nA?>b", text("a"), sign("?>"), isHtml("b"))
		for _, rest := range []string{"", "a", "a\n", " A", "a\nAA\n", "a\n A", "a A\n", "A1", "$x[\n", "$x[0\n", "?>\n'\"\n"} {
			checkFault(t, head+rest, api.ErrOpen, 0)
			checkFault(t, "1;"+head+rest, api.ErrOpen, 2)
		}
	}
	checkCode(t, "<<<"+name+"\na\n"+name+"\n", text("a"))
	checkCode(t, "<<<'"+name+"'\na\n"+name+"\n", text("a"))
	checkCode(t, "<<<'A'\n$a\\n\\\\\\'\nA", text("$a\\n\\\\\\'"))
	checkCode(t, "<<<_a9\n$a\n_a9", isParts(bare("a")))
	checkCode(t, "<<<echo\na\nECHO\necho", text("a\nECHO"))
	checkCode(t, "<<<<A\na\nA", sign("<"), text("a"))
	// These are no long texts.
	less := sign("<")
	checkCode(t, "<<<A", less, less, less, isName("A"))
	checkCode(t, "<<<A \nA", less, less, less, isName("A"), isName("A"))
	checkCode(t, "<<<A\r\nA", less, less, less, isName("A"), isName("A"))
	checkCode(t, "<<< A\nA", less, less, less, isName("A"), isName("A"))
	checkCode(t, "<<A\nA", less, less, isName("A"), isName("A"))
	checkCode(t, "<<<\"A\"\nA", less, less, less, text("A"), isName("A"))
	checkCode(t, "<<<'A'", less, less, less, text("A"))
	checkCode(t, "<<<'A\n'", less, less, less, text("A\n"))
	checkCode(t, "<<<''\n", less, less, less, text(""))
	checkCode(t, "<<<1\n1", less, less, less, isInt(1), isInt(1))
	checkFault(t, "<<<1A\n1A", api.ErrNum, 3)
}

// TestP2_1_Open: what does not end within its piece.
func TestP2_1_Open(t *testing.T) {
	for _, code := range []string{"/*", "/*/", "/* *", "/*a\n?>", "/*'*"} {
		checkFault(t, code, api.ErrOpen, 0)
		checkFault(t, "1 /**/"+code, api.ErrOpen, 6)
	}
	for _, code := range []string{`"`, `"a`, `"\"`, `"$a`, `"$a->`, `"$a[0]`, `"\`, `"$`, "\"?>\n", `"'`, `"\x`} {
		checkFault(t, code, api.ErrOpen, 0)
		checkFault(t, "''"+code, api.ErrOpen, 2)
	}
	// What is wrong in a text in `"` that does not end comes ahead, up to the piece's end.
	checkFault(t, `;"a$b[`, api.ErrForm, 5)
	checkFault(t, `;"a$b[0`, api.ErrForm, 5)
	checkFault(t, `;"a$b[$`, api.ErrForm, 5)
	checkFault(t, `"?>$b[']`, api.ErrForm, 5)
	checkFault(t, `"\"$b[\"`, api.ErrForm, 5)
	checkFault(t, `"$`+strings.Repeat("v", api.MaxName+1), api.ErrLong, 1)
	checkFault(t, `"$a[$`+strings.Repeat("v", api.MaxName+1), api.ErrForm, 3)
	checkFault(t, `"$a->`+strings.Repeat("v", api.MaxName+1), api.ErrLong, 5)
	// Of others it does not.
	checkFault(t, `'$b[`, api.ErrOpen, 0)
	checkFault(t, `/* $b[ "`, api.ErrOpen, 0)
}

// TestP2_1_LongNames: names and variables of MaxName bytes and of one more, in wide texts.
func TestP2_1_LongNames(t *testing.T) {
	most := strings.Repeat("v", api.MaxName)
	more := most + "v"
	checkCode(t, `"$`+most+` $a[`+most+`] $a[$`+most+`] $a->`+most+`"`, isParts(
		bare(most), plain(" "), atKey("a", most), plain(" "), atBy("a", most), plain(" "), ofObject("a", most)))
	for in, at := range map[string]int{
		"$" + more:                    0,
		"a $" + more:                  2,
		"$" + more + "[":              0,
		"$" + more + "[" + more + "]": 0,
		"$" + more + "->" + more:      0,
		"$a[" + more + "]":            3,
		"$a[$" + more + "]":           3,
		"$a->" + more:                 4,
		"$a->" + more + "[":           4,
	} {
		checkFault(t, `"`+in+`"`, api.ErrLong, 1+at)
		checkFault(t, "<<<A\n"+in+"\nA", api.ErrLong, 5+at)
		checkCode(t, "'"+in+"'", text(in))
	}
	checkFault(t, `"$a[`+more+`"`, api.ErrForm, 3)
	checkFault(t, `"$a[$`+more+`[0]]"`, api.ErrForm, 3)
	checkCode(t, `"`+more+` $ `+more+` ->`+more+`"`, text(more+" $ "+more+" ->"+more))
}

// TestP2_1_First: the first fault is told, and a fault of a later piece too.
func TestP2_1_First(t *testing.T) {
	checkFault(t, "1a ^", api.ErrNum, 0)
	checkFault(t, "^ 1a", api.ErrForm, 0)
	checkFault(t, "^ '", api.ErrForm, 0)
	checkFault(t, "' ^", api.ErrOpen, 0)
	checkFault(t, "/**/ '^' # ^\n ^", api.ErrForm, 14)
	for file, want := range map[string]api.Fault{
		"a^<?= 1 ?>^<?php ^": {Why: api.ErrForm, At: 17},
		"<?=^":               {Why: api.ErrForm, At: 3},
		"<?=?>\n<?= 1a":      {Why: api.ErrNum, At: 10},
		"<?php ?> <?php '":   {Why: api.ErrOpen, At: 15},
	} {
		if got, fault := Tokens(file); fault != want || len(got) != 0 {
			t.Errorf("Tokens(%q): %+v, %+v; want %+v", file, got, fault, want)
		}
	}
}

// TestP2_1_Lengths: a file may have MaxFile bytes, and no more.
func TestP2_1_Lengths(t *testing.T) {
	for _, part := range []string{"a", ";", "$a ", "'a'", "\n", "<", "<?=1?>", "# ", "a\\", "$a[0]", "\\", "1 "} {
		for _, head := range []string{"", open, open + `"`, open + "<<<A\n", open + "/*", open + "'"} {
			file := (head + strings.Repeat(part, api.MaxFile))[:api.MaxFile]
			got, fault := Tokens(file)
			if fault == (api.Fault{Why: api.ErrLong}) || fault.Why != api.OK && len(got) > 0 {
				t.Errorf("MaxFile bytes, %q and %q: %d tokens, %+v", head, part, len(got), fault)
			}
			if got, fault := Tokens(file + "x"); fault != (api.Fault{Why: api.ErrLong}) || len(got) != 0 {
				t.Errorf("MaxFile + 1 bytes, %q and %q: %d tokens, %+v", head, part, len(got), fault)
			}
		}
	}
	code := strings.Repeat(";", api.MaxFile-len(open))
	got, fault := Tokens(open + code)
	if fault != (api.Fault{}) || len(got) != len(code) || got[len(code)-1].At != api.MaxFile-1 {
		t.Errorf("as many signs as can be: %d tokens, %+v", len(got), fault)
	}
}

// TestP2_1_Own: the tokens and their parts are the caller's.
func TestP2_1_Own(t *testing.T) {
	const code = `"a$b" . "c$d"`
	got, _ := Tokens(open + code)
	got[0].Parts[0].Text = "x"
	_ = append(got[0].Parts, plain("y"))
	got[1] = api.Tok{}
	checkCode(t, code, isParts(plain("a"), bare("b")), sign("."), isParts(plain("c"), bare("d")))
}

func TestP2_2_Key(t *testing.T) {
	for _, word := range strings.Fields(keywords) {
		for _, s := range []string{word, strings.ToUpper(word), strings.ToUpper(word[:1]) + word[1:], word[:1] + strings.ToUpper(word[1:])} {
			if !Key(s) || Name(s) {
				t.Errorf("%q: Key %v, Name %v", s, Key(s), Name(s))
			}
		}
		for _, s := range []string{" " + word, word + " ", "\\" + word, word + "\\", "$" + word, word + "\x00", word[:len(word)-1] + "\xff"} {
			if Key(s) {
				t.Errorf("Key(%q)", s)
			}
		}
	}
	for _, s := range append(strings.Fields(notKeywords), "", " ", "\\", "0", "echo echo", "?>", "include-once", "brea\u212a", "a\u017f", "\u017ftatic", "if\n", "==") {
		if Key(s) {
			t.Errorf("Key(%q)", s)
		}
	}
}

func TestP2_2_Name(t *testing.T) {
	most := strings.Repeat("n", api.MaxName)
	for _, s := range append(strings.Fields(notKeywords),
		"_", "Z9", "\\a", "a\\b", "\\a\\b_\\C9", "\\echo", "echo\\a", "a\\ECHO", "new\\new", most, "\\"+most[1:], most[2:]+"\\n") {
		if !Name(s) {
			t.Errorf("not Name(%q)", s)
		}
	}
	for _, s := range []string{
		"", "\\", "\\\\", "a\\", "\\a\\", "a\\\\b", "\\\\a", "0", "0a", "a\\0", "\\1", " a", "a ", "a b", "a\n", "a-b", "a.b", "$a", "é", "aé", "a\\é", "a\xff", "\u212a", "a\x00", "a/b", "'a'",
		"echo", "ECHO", "Include_Once", most + "n", "\\" + most, most[1:] + "\\n",
	} {
		if Name(s) {
			t.Errorf("Name(%q)", s)
		}
	}
}
