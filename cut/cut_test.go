package cut

import (
	"math"
	"slices"
	"strings"
	"testing"

	"ostler/api"
)

func html(text string, at int) api.Piece { return api.Piece{Kind: api.PieceHtml, Text: text, At: at} }
func code(text string, at int) api.Piece { return api.Piece{Kind: api.PieceCode, Text: text, At: at} }
func echo(text string, at int) api.Piece { return api.Piece{Kind: api.PieceEcho, Text: text, At: at} }

type cutCase struct {
	file string
	want []api.Piece
}

func checkCuts(t *testing.T, cases []cutCase) {
	t.Helper()
	for _, c := range cases {
		got, err := Cut(c.file)
		if err != api.OK || !slices.Equal(got, c.want) {
			t.Errorf("Cut(%q): %v, %+v; want %+v", c.file, err, got, c.want)
		}
	}
}

// behind is the pieces of a `<?php `, some code, a `?>` and what is behind that.
func behind(hidden, rest string) cutCase {
	file := "<?php " + hidden + "?>" + rest
	return cutCase{file, []api.Piece{code(hidden, 6), html(rest, len(file)-len(rest))}}
}

// toEnd is the one piece of a `<?php ` and code that goes on up to the file's end.
func toEnd(text string) cutCase {
	return cutCase{"<?php " + text, []api.Piece{code(text, 6)}}
}

// TestP1_1_Openings: where code begins, and what is left out there.
func TestP1_1_Openings(t *testing.T) {
	checkCuts(t, []cutCase{
		{"", nil},
		{"a", []api.Piece{html("a", 0)}},
		{"a<?php echo '?>'; ?>\nb", []api.Piece{html("a", 0), code("echo '?>'; ", 7), html("b", 21)}},
		{"<p><?= 1 + 2 ?></p>", []api.Piece{html("<p>", 0), echo(" 1 + 2 ", 6), html("</p>", 15)}},
		// The blank behind `<?php`: one is left out, 13 and 10 count as one.
		{"<?php x", []api.Piece{code("x", 6)}},
		{"<?php\tx", []api.Piece{code("x", 6)}},
		{"<?php\nx", []api.Piece{code("x", 6)}},
		{"<?php\rx", []api.Piece{code("x", 6)}},
		{"<?php\r\nx", []api.Piece{code("x", 7)}},
		{"<?php  x", []api.Piece{code(" x", 6)}},
		{"<?php\n\nx", []api.Piece{code("\nx", 6)}},
		{"<?php\n\rx", []api.Piece{code("\rx", 6)}},
		{"<?php\r\rx", []api.Piece{code("\rx", 6)}},
		{"<?php \r\nx", []api.Piece{code("\r\nx", 6)}},
		{"<?php\r\n\nx", []api.Piece{code("\nx", 7)}},
		{"<?php\r", []api.Piece{code("", 6)}},
		{"<?php\r\n", []api.Piece{code("", 7)}},
		{"<?php ", []api.Piece{code("", 6)}},
		// The file's end stands for the blank.
		{"<?php", []api.Piece{code("", 5)}},
		{"a<?php", []api.Piece{html("a", 0), code("", 6)}},
		// Without a blank it is no code.
		{"<?phpx 1", []api.Piece{html("<?phpx 1", 0)}},
		{"<?php?>", []api.Piece{html("<?php?>", 0)}},
		{"<?php\vx", []api.Piece{html("<?php\vx", 0)}},
		{"<?php\fx", []api.Piece{html("<?php\fx", 0)}},
		{"<?php\x00x", []api.Piece{html("<?php\x00x", 0)}},
		{"<?php\xa0x", []api.Piece{html("<?php\xa0x", 0)}},
		{"<?ph", []api.Piece{html("<?ph", 0)}},
		{"<? php x", []api.Piece{html("<? php x", 0)}},
		{"<?xml ?>", []api.Piece{html("<?xml ?>", 0)}},
		{"< ?php x", []api.Piece{html("< ?php x", 0)}},
		// Letters of either case.
		{"<?PHP x", []api.Piece{code("x", 6)}},
		{"<?pHp\nx", []api.Piece{code("x", 6)}},
		{"<?PhP", []api.Piece{code("", 5)}},
		// Behind `<?=` code begins at once.
		{"<?=x", []api.Piece{echo("x", 3)}},
		{"<?= x", []api.Piece{echo(" x", 3)}},
		{"<?=\n x", []api.Piece{echo("\n x", 3)}},
		{"<?=", []api.Piece{echo("", 3)}},
		{"<?=?>", []api.Piece{echo("", 3)}},
		// The first opening that holds counts, and none counts in code.
		{"<<?php x", []api.Piece{html("<", 0), code("x", 7)}},
		{"<?<?=x", []api.Piece{html("<?", 0), echo("x", 5)}},
		{"<?php<?php x", []api.Piece{html("<?php", 0), code("x", 11)}},
		{"<?phpx<?=1", []api.Piece{html("<?phpx", 0), echo("1", 9)}},
		{"<?= <?php ?>", []api.Piece{echo(" <?php ", 3)}},
		{"<?php <?= ?>a", []api.Piece{code("<?= ", 6), html("a", 12)}},
		// What hides a `?>` in code hides no code outside of it.
		{"'<?=1?>'", []api.Piece{html("'", 0), echo("1", 4), html("'", 7)}},
		{"/*<?=1?>*/", []api.Piece{html("/*", 0), echo("1", 5), html("*/", 8)}},
	})
}

// TestP1_1_Closings: what is left out behind `?>`.
func TestP1_1_Closings(t *testing.T) {
	checkCuts(t, []cutCase{
		{"<?=1?>a", []api.Piece{echo("1", 3), html("a", 6)}},
		{"<?=1?>\na", []api.Piece{echo("1", 3), html("a", 7)}},
		{"<?=1?>\r\na", []api.Piece{echo("1", 3), html("a", 8)}},
		{"<?=1?>\ra", []api.Piece{echo("1", 3), html("\ra", 6)}},
		{"<?=1?>\n\na", []api.Piece{echo("1", 3), html("\na", 7)}},
		{"<?=1?>\n\r\na", []api.Piece{echo("1", 3), html("\r\na", 7)}},
		{"<?=1?>\r\n\na", []api.Piece{echo("1", 3), html("\na", 8)}},
		{"<?=1?> \na", []api.Piece{echo("1", 3), html(" \na", 6)}},
		{"<?=1?>\n", []api.Piece{echo("1", 3)}},
		{"<?=1?>\r\n", []api.Piece{echo("1", 3)}},
		{"<?=1?>\r", []api.Piece{echo("1", 3), html("\r", 6)}},
		{"<?=1?>", []api.Piece{echo("1", 3)}},
		{"<?php ?>", []api.Piece{code("", 6)}},
		{"<?php\n?>", []api.Piece{code("", 6)}},
		{"<?=1?><?=2?>", []api.Piece{echo("1", 3), echo("2", 9)}},
		{"<?=1?>\n<?php 2?>\r\n<?=3", []api.Piece{echo("1", 3), code("2", 13), echo("3", 21)}},
		{"<?= ??>b", []api.Piece{echo(" ?", 3), html("b", 7)}},
		{"<?= ? > ?>b", []api.Piece{echo(" ? > ", 3), html("b", 10)}},
		{"<?= 1 ?", []api.Piece{echo(" 1 ?", 3)}},
		{"<?=1?>?>b", []api.Piece{echo("1", 3), html("?>b", 6)}},
	})
}

// TestP1_1_Texts: `?>` does not count in texts.
func TestP1_1_Texts(t *testing.T) {
	checkCuts(t, []cutCase{
		behind("'?>'", "a"),
		behind("\"?>\"", "a"),
		behind("'?>' . \"?>\" . '?>'", "a"),
		behind("'a\n?>\n'", "a"),
		behind("''", "'?>'"),
		behind("\"\"", "\"?>\""),
		// The other quote does not end a text, and what begins other things begins nothing in it.
		behind("'\"?>'", "a\""),
		behind("\"'?>\"", "a'"),
		behind("'/*?>'", "*/?>"),
		behind("'#?>//?>'", "a"),
		behind("'<<<A\n?>'", "b\nA?>"),
		// A byte behind `\` never counts.
		behind(`'\'?>'`, "a"),
		behind(`"\"?>"`, "a"),
		behind(`'\\'`, "'?>"),
		behind(`"\\"`, `"?>`),
		behind(`'\\\'?>'`, "a"),
		behind(`"\?>"`, "a"),
		// Outside of texts `\` hides nothing.
		behind(`\'?>'`, "a"),
		behind(`\`, "a"),
		// Texts that do not end go up to the file's end.
		toEnd("'?>"),
		toEnd("\"?>a"),
		toEnd("'"),
		toEnd(`'?>\'`),
		toEnd(`'?>\`),
		toEnd("\"?>'"),
		toEnd("'' '?>\""),
	})
}

// TestP1_1_Comments: `?>` does not count in comments.
func TestP1_1_Comments(t *testing.T) {
	checkCuts(t, []cutCase{
		behind("/*?>*/", "a"),
		behind("/**/", "?>*/"),
		behind("/***/", "?>*/"),
		behind("/* * / ?> */", "a"),
		behind("/*?>\n?>**/", "a"),
		behind("/*/?>*/", "a"),
		behind("/*//?>*/", "a"),
		behind("/*/**/", "?>*/"),
		// Quotes and the like in a comment begin nothing, nor does `\` hide its end.
		behind("/*'*/", "'?>"),
		behind("/*\"*/", "\"?>"),
		behind("/*#*/", "'?>"),
		behind(`/*\*/`, "?>*/"),
		behind("/*<<<A\n*/", "b\nA?>"),
		behind("/", "*?>*/"),
		behind("*/", "a"),
		behind("/ *", "*/"),
		toEnd("/*?>"),
		toEnd("/*/?>"),
		toEnd("/*?>*"),
		toEnd("/*"),
		toEnd("/* '*' / ?>"),
	})
}

// TestP1_1_Remarks: a `?>` in a remark ends the code, and quotes in it do not count.
func TestP1_1_Remarks(t *testing.T) {
	checkCuts(t, []cutCase{
		behind("# a ", "b"),
		behind("// a ", "b"),
		behind("#", "b"),
		behind("//", "b"),
		behind("# '", "'?>"),
		behind("// '", "'?>"),
		behind("# \" \n", "b"),
		behind("# it's\n", "b'"),
		behind("// it's\n", "b'"),
		behind("# /* ", "*/?>"),
		behind("# <<<A\n", "b\nA?>"),
		behind("// <<<A\n 1; ", "A\n?>"),
		behind(`# \`, "b"),
		// Behind the end of the line texts count again.
		behind("# '\n'?>'", "b"),
		behind("// \"\n\"?>\"", "b"),
		behind("# a\r\n'?>'", "b"),
		// A byte 13 alone ends no line.
		behind("# '\r'", "'?>"),
		behind("# \r \"", "?>"),
		behind("/ /'?>'", "b"),
		behind("#?", "b"),
		toEnd("# '"),
		toEnd("// \" ?"),
		toEnd("# a\n'?>"),
	})
}

// TestP1_1_LongTexts: `?>` does not count in long texts, in `' '` or not, that end or do not.
func TestP1_1_LongTexts(t *testing.T) {
	checkCuts(t, []cutCase{
		behind("<<<A\n?>\nA", "b"),
		behind("<<<A\n?>\nA; ", "b"),
		behind("<<<'A'\n?>\nA; ", "b"),
		behind("<<<A\nA", "?>\nA"),
		behind("<<<A\n?>\n?>\n\nA\n", "b"),
		behind("<<<_azAZ09\n?>\n_azAZ09;", "b"),
		behind("<<<a\n?>\na;", "b"),
		behind("<<<z\n?>\nz;", "b"),
		behind("<<<Z\n?>\nZ;", "b"),
		behind("<<<_\n?>\n_;", "b"),
		behind("<<<A\n' \" /* # \n?>\nA;", "b'"),
		behind("<<<A\n\\\n?>\nA;", "b"),
		// Letters, digits and `_` behind the name: the line does not end it.
		behind("<<<A\nAB ?>\nA1 ?>\nA_ ?>\nAa ?>\nA-", "b"),
		behind("<<<A\nAA?>\nAZ?>\nAz?>\nA0?>\nA9?>\nA", "b"),
		behind("<<<A\nA@'?>'", "b"),
		behind("<<<A\nA['?>'", "b"),
		behind("<<<A\nA`'?>'", "b"),
		behind("<<<A\nA{'?>'", "b"),
		behind("<<<A\nA/'?>'", "b"),
		behind("<<<A\nA:'?>'", "b"),
		behind("<<<A\n?>\nA\xc3", "b"),
		behind("<<<A\n?>\nA'?>'", "b"),
		// The name ends it just at the beginning of a line, in just these letters.
		behind("<<<A\n A ?>\n\tA?>\nxA?>\na?>\nA ", "b"),
		behind("<<<AB\nA?>\nAB", "b"),
		behind("<<<A\n<<<B\n?>\nB?>\nA ", "b"),
		// What stands behind the name is code again.
		behind("<<<A\nA.'?>'", "b"),
		behind("<<<A\nA # ", "b"),
		behind("<<<A\n?>\nA.<<<A\n?>\nA", "b"),
		behind("<<<A\n?>\nA.<<<'B'\nA?>\nB", "b"),
		behind("<<<<A\n?>\nA ", "b"),
		behind("<<<<<<A\n?>\nA ", "b"),
		// These begin none.
		behind("<<<", "b\nA?>"),
		behind("<<<\n", "b\n?>"),
		behind("<<<A", "b\nA"),
		behind("<<<A ", "b\nA"),
		behind("<<<A \n", "b\nA"),
		behind("<<< A\n", "b\nA"),
		behind("<<<A\r", "b\nA"),
		behind("<<<A\r\n", "b\nA"),
		behind("<<<0\n", "b\n0"),
		behind("<<<1\n", "b\n1"),
		behind("<<<9A\n", "b\n9A"),
		behind("<<<A-\n", "b\nA"),
		behind("<<<''\n", "b\n''"),
		behind("<<A\n", "b\nA"),
		behind("<<<\"A\"\n", "b\nA"),
		behind("<<<\xc3\n", "b\n\xc3"),
		behind("<<<'A'", "b\nA"),
		behind("<<<'A\n?>'", "b\nA"),
		behind("<<<A'\n?>'", "b\nA"),
		behind("<<<' A'\n", "b\nA"),
		// What does not end goes up to the file's end.
		toEnd("<<<A\n"),
		toEnd("<<<A\n?>"),
		toEnd("<<<A\n?>\n"),
		toEnd("<<<A\n?>\n A\n?>"),
		toEnd("<<<A\n?>\nAB\n?>"),
		toEnd("<<<'A'\n?>\n'A'\n?>"),
		toEnd("<<<A\n?>A\n?>"),
		toEnd("<<<A\n?>\rA\n?>"),
		toEnd("<<<'A'\n?>"),
		toEnd("<<<A\nA"),
		toEnd("<<<A\n?>\nA"),
		toEnd("<<<A\n?>\nA9"),
	})
}

// TestP1_1_Kinds: in a piece of either kind the same is hidden.
func TestP1_1_Kinds(t *testing.T) {
	for _, hidden := range []string{"'?>'", "\"?>\"", "/*?>*/", "<<<A\n?>\nA", "<<<'A'\n?>\nA", "# '", "// \""} {
		file := "<?=" + hidden + "?>b"
		got, err := Cut(file)
		if err != api.OK || !slices.Equal(got, []api.Piece{echo(hidden, 3), html("b", len(file)-1)}) {
			t.Errorf("Cut(%q): %v, %+v", file, err, got)
		}
	}
}

// TestP1_1_LongNames: the name of a long text may have any number of bytes.
func TestP1_1_LongNames(t *testing.T) {
	name := strings.Repeat("n", 3*api.MaxName)
	checkCuts(t, []cutCase{
		behind("<<<"+name+"\n?>\n"+name, "b"),
		behind("<<<'"+name+"'\n"+name+"n?>\n"+name, "b"),
	})
}

// TestP1_1_Lengths: a file may have MaxFile bytes, and no more.
func TestP1_1_Lengths(t *testing.T) {
	for _, text := range []string{"a", "<?php ", "<?= '", "<?=1?>", "<?php //", "<<<", "\n", "<?php <<<A\n"} {
		file := strings.Repeat(text, api.MaxFile)[:api.MaxFile]
		got, err := Cut(file)
		if err != api.OK || len(got) == 0 {
			t.Errorf("MaxFile bytes of %q: %v, %d pieces", text, err, len(got))
		}
		if got, err := Cut(file + "x"); err != api.ErrLong || len(got) != 0 {
			t.Errorf("MaxFile + 1 bytes of %q: %v, %d pieces", text, err, len(got))
		}
	}
	full := strings.Repeat("a", api.MaxFile)
	checkCuts(t, []cutCase{{full, []api.Piece{html(full, 0)}}})
	if got, err := Cut(strings.Repeat(full, 3)); err != api.ErrLong || len(got) != 0 {
		t.Errorf("3 * MaxFile bytes: %v, %d pieces", err, len(got))
	}
}

// TestP1_1_Own: the pieces are the caller's.
func TestP1_1_Own(t *testing.T) {
	const file = "a<?= 1 ?>b"
	first, _ := Cut(file)
	first[0] = api.Piece{}
	_ = append(first[:1], api.Piece{})
	checkCuts(t, []cutCase{{file, []api.Piece{html("a", 0), echo(" 1 ", 4), html("b", 9)}}})
}

func TestP1_2_Ended(t *testing.T) {
	for _, c := range []struct {
		file string
		p    api.Piece
		want bool
	}{
		{"<?= 1 ?>", echo(" 1 ", 3), true},
		{"<?= 1 ?>", api.Piece{Text: " 1 ", At: 3}, true},
		{"<?= 1 ?>a", echo(" 1 ", 3), true},
		{"<?php 1 ?>", code("1 ", 6), true},
		{"<?php ?>", code("", 6), true},
		{"<?= 1 ", echo(" 1 ", 3), false},
		{"<?= 1 ?", echo(" 1 ?", 3), false},
		{"<?= 1 ?", echo(" 1 ", 3), false},
		// The text must stand there, whole.
		{"<?= 1 ?>", echo(" 2 ", 3), false},
		{"<?= 1 ?>", echo(" 1", 3), false},
		{"<?= 1 ?>", echo("1 ", 3), false},
		{"<?= 1 ?>", echo(" 1 ", 2), false},
		{"<?= 1 ?>", echo(" 1 ", 4), false},
		{"<?= 1 ?>", echo(" 1 ?>", 3), false},
		{"<?= 1 ?>", echo(" 1 ?>  ", 3), false},
		// Whatever the piece is, its text and its place alone count.
		{"a?>", html("a", 0), true},
		{"a?>", api.Piece{Kind: 99, Text: "a"}, true},
		{"?>", api.Piece{}, true},
		{"?>", api.Piece{At: 1}, false},
		{"?>?>", api.Piece{Text: "?>"}, true},
		{"'?>'", api.Piece{Text: "'"}, true},
		{"", api.Piece{}, false},
		{"a", api.Piece{Text: "a"}, false},
		// Places below 0 and past the end.
		{"?>", api.Piece{At: -1}, false},
		{"a?>", api.Piece{Text: "a", At: -1}, false},
		{"a?>", api.Piece{At: 3}, false},
		{"a?>", api.Piece{At: 4}, false},
		{"a?>", api.Piece{Text: "a", At: 3}, false},
		{"a?>", api.Piece{Text: "a", At: math.MaxInt}, false},
		{"a?>", api.Piece{Text: "a", At: math.MinInt}, false},
		{"", api.Piece{At: math.MaxInt}, false},
	} {
		if got := Ended(c.file, c.p); got != c.want {
			t.Errorf("Ended(%q, %+v): %v", c.file, c.p, got)
		}
	}
	long := strings.Repeat("a", 2*api.MaxFile)
	if !Ended(long+"?>", api.Piece{Text: long}) || Ended(long, api.Piece{Text: long}) {
		t.Error("of more than MaxFile bytes")
	}
}

func TestP1_2_Line(t *testing.T) {
	for _, c := range []struct {
		file string
		at   int
		want int
	}{
		{"", 0, 1},
		{"", 1, 1},
		{"", -1, 1},
		{"a\nb\n", 0, 1},
		{"a\nb\n", 1, 1}, // the byte 10 stands on the line that it ends
		{"a\nb\n", 2, 2},
		{"a\nb\n", 3, 2},
		{"a\nb\n", 4, 3},
		{"a\nb\n", 5, 3},
		{"a\nb\n", 99, 3},
		{"a\nb\n", math.MaxInt, 3},
		{"a\nb\n", -1, 1},
		{"a\nb\n", math.MinInt, 1},
		{"\n\n\n", 0, 1},
		{"\n\n\n", 2, 3},
		{"\n\n\n", 3, 4},
		{"a\rb", 3, 1}, // a byte 13 ends no line
		{"a\r\nb", 2, 1},
		{"a\r\nb", 3, 2},
		{"\xe2\x80\xa8a", 4, 1},
	} {
		if got := Line(c.file, c.at); got != c.want {
			t.Errorf("Line(%q, %d): %d, want %d", c.file, c.at, got, c.want)
		}
	}
	if got := Line(strings.Repeat("\n", 2*api.MaxFile), math.MaxInt); got != 2*api.MaxFile+1 {
		t.Errorf("of more than MaxFile bytes: %d", got)
	}
}
