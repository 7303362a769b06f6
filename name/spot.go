package name

import (
	"iter"
	"slices"

	"ostler/api"
)

// spot is where a node stands: which one of its parent's Kids it is. The parent of a tree's root is a node without an Op.
type spot struct {
	node, parent *api.Node
	at           int
}

// spots yields the nodes of a tree, each ahead of its Kids, with how many loops are around it within its function.
func spots(root *api.Node) iter.Seq2[spot, int] {
	return func(yield func(spot, int) bool) {
		walk(spot{node: root, parent: &api.Node{}}, 0, yield)
	}
}

// walk tells whether to go on behind a node and all that is in it.
func walk(s spot, loops int, yield func(spot, int) bool) bool {
	if !yield(s, loops) {
		return false
	}
	switch s.node.Op {
	case "while", "do", "for", "foreach", "switch":
		loops++
	case "function", "method", "closure":
		loops = 0
	}
	for i := range s.node.Kids {
		if !walk(spot{node: &s.node.Kids[i], parent: s.node, at: i}, loops, yield) {
			return false
		}
	}
	return true
}

// copied is a tree that shares nothing with another one that is the same.
func copied(n api.Node) api.Node {
	n.Kids = slices.Clone(n.Kids)
	for i, kid := range n.Kids {
		n.Kids[i] = copied(kid)
	}
	return n
}

// roomLeft is how much of a room for nodes a tree leaves; below 0, if it has more. It does not count all of these, as nodes that share their Kids can be more than anybody could count.
func roomLeft(n api.Node, room int) int {
	room--
	for _, kid := range n.Kids {
		if room < 0 {
			break
		}
		room = roomLeft(kid, room)
	}
	return room
}
