package tree

import (
	"slices"
	"strings"
	"testing"

	"ostler/api"
)

// turnedOnce yields trees that differ from a tree in one node's Op, Text, Int or Kids.
func turnedOnce(n api.Node, yield func(other api.Node)) {
	other := n
	other.Op += "x"
	yield(other)
	other = n
	other.Text += "x"
	yield(other)
	other = n
	other.Int++
	yield(other)
	other = n
	other.Kids = append(slices.Clone(n.Kids), api.Node{})
	yield(other)
	for i, kid := range n.Kids {
		other = n
		other.Kids = slices.Delete(slices.Clone(n.Kids), i, i+1)
		yield(other)
		turnedOnce(kid, func(turned api.Node) {
			other := n
			other.Kids = slices.Clone(n.Kids)
			other.Kids[i] = turned
			yield(other)
		})
		if i > 0 && !Same(kid, n.Kids[i-1]) {
			other = n
			other.Kids = slices.Clone(n.Kids)
			other.Kids[i], other.Kids[i-1] = other.Kids[i-1], other.Kids[i]
			yield(other)
		}
	}
}

// relined is a tree with other lines, and with empty Kids for nil ones.
func relined(n api.Node, line int) api.Node {
	n.Line = line
	kids := []api.Node{}
	for i, kid := range n.Kids {
		kids = append(kids, relined(kid, line*3+i))
	}
	n.Kids = kids
	return n
}

// sameCode has each kind of node but `parts` and `html` in it.
const sameCode = `<?php namespace N; use A as B; abstract class C extends D implements E { const F = 1; public static $g = [1, 'k' => 2]; use T { a insteadof U; T::b as c; } public final function h(&$i, $j = -1) { return $this->k[0]; } }
	function l() { static $m = 1; global $n; foreach ($n as $o => $p) { continue 2; } } try { throw new Q("r$s[0]$t->u"); } catch (V | W $x) {} finally { unset($y[1]); } for (;;) { break; } switch ($z) { case 1: ; default: echo 1 ? 2 : 3; } ?>h<?php
	$a = fn() => exit(1); $b = &$c; [$d, $e] = function () use (&$f) { if (isset($g)) {} elseif (empty($h)) {} else {} }; while (!$i instanceof J) do ++$k; while ($l++ ?? (int) M::$n . O::P . Q::r()); f($s->t(1)); clone $u; include 'v';`

func TestP3_2_Same(t *testing.T) {
	n, fault := Parse(sameCode)
	if fault != (api.Fault{}) {
		t.Fatal(fault)
	}
	again, _ := Parse(sameCode)
	if !Same(n, n) || !Same(n, again) || !Same(n, relined(n, 7)) || !Same(relined(n, 7), n) {
		t.Error("a tree is not the same as itself")
	}
	others := 0
	turnedOnce(n, func(other api.Node) {
		others++
		if Same(n, other) || Same(other, n) || Same(relined(n, 2), other) {
			t.Fatalf("the same:\n%s\n%s", dump(n, false), dump(other, false))
		}
	})
	if others < 500 {
		t.Errorf("just %d other trees", others)
	}
	if !Same(api.Node{}, api.Node{}) || !Same(api.Node{Line: 1}, api.Node{Line: -2, Kids: []api.Node{}}) || Same(api.Node{}, n) || Same(n, api.Node{}) {
		t.Error("of nodes without anything in them")
	}
	// A node's Op, its Text and its Kids' are not held against each other as one text.
	if Same(of("a", "bc"), of("ab", "c")) || Same(of("a", "", of("b", "")), of("a", "", of("", "b"))) || Same(of("a", "", of("b", "", of("c", ""))), of("a", "", of("b", ""), of("c", ""))) {
		t.Error("of nodes with the same letters")
	}
}

// nestedNodes is a node with so many within one another, the innermost one with a text.
func nestedNodes(count int, text string) api.Node {
	n := of("a", text)
	for range count - 1 {
		n = of("a", "", n)
	}
	return n
}

func TestP3_2_Count(t *testing.T) {
	for _, c := range []struct {
		n    api.Node
		want int
	}{
		{api.Node{}, 1},
		{of("a", "", api.Node{}), 2},
		{of("a", "", of("b", ""), of("c", "", of("d", ""), of("e", "")), of("f", "")), 6},
		{nestedNodes(1<<16, ""), 1 << 16},
		{of("a", "", make([]api.Node, 1<<16)...), 1<<16 + 1},
	} {
		if got := Count(c.n); got != c.want {
			t.Errorf("Count: %d; want %d", got, c.want)
		}
	}
	n, _ := Parse("<?php $a[] = 1 + 2 * 3;")
	if got := Count(n); got != 11 {
		t.Errorf("Count of %s: %d", dump(n, false), got)
	}
	if n, _ = Parse(sameCode); Count(n) != len(strings.FieldsFunc(dump(bare(n), false), func(r rune) bool { return strings.ContainsRune("( )", r) })) {
		t.Errorf("Count of %s: %d", dump(n, false), Count(n))
	}
}

// TestP3_2_Deep: trees with many nodes within one another.
func TestP3_2_Deep(t *testing.T) {
	if !Same(nestedNodes(1<<16, "b"), nestedNodes(1<<16, "b")) || Same(nestedNodes(1<<16, "b"), nestedNodes(1<<16, "c")) || Same(nestedNodes(1<<16, "b"), nestedNodes(1<<16-1, "b")) {
		t.Error("of trees with many nodes within one another")
	}
	n, fault := Parse(open + strings.Repeat("1+", 32000) + "1;")
	if fault != (api.Fault{}) || Count(n) != 2+64001 || !Same(n, n) {
		t.Errorf("of a long sum: %+v, %d", fault, Count(n))
	}
	n, fault = Parse(open + "$a" + strings.Repeat("[]", 32000) + "=1;")
	if fault != (api.Fault{}) || Count(n) != 4+64001 || !Same(n, n) {
		t.Errorf("of a long place: %+v, %d", fault, Count(n))
	}
}

// TestR4_Parse: what is written into one tree turns no other.
func TestR4_Parse(t *testing.T) {
	n, _ := Parse(sameCode)
	want := dump(n, true)
	other, _ := Parse(sameCode)
	scratch(other)
	if again, _ := Parse(sameCode); dump(n, true) != want || dump(again, true) != want {
		t.Error("a tree was turned by what was written into another one")
	}
	// No two nodes of a tree share Kids.
	spread, _ := Parse(open + "[$a, $b] = [$a, $b]; f($a, $b)(1)($b);")
	before := dump(spread.Kids[1], false)
	scratch(spread.Kids[0])
	if dump(spread.Kids[1], false) != before {
		t.Error("a statement was turned by what was written into another one")
	}
}

// scratch writes into all nodes of a tree, and behind their Kids.
func scratch(n api.Node) {
	for i := range n.Kids {
		scratch(n.Kids[i])
		n.Kids[i] = api.Node{Op: "scratched"}
	}
	_ = append(n.Kids, api.Node{Op: "scratched"})
}
