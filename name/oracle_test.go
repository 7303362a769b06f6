package name

import (
	"slices"
	"strings"

	"ostler/api"
)

// seen is a node of a tree with all that are around it, from the root on, and which one of its parent's Kids it is.
type seen struct {
	node   api.Node
	around []api.Node
	at     int
}

// allSeen are the nodes of a tree in their order.
func allSeen(n api.Node, around []api.Node, at int) []seen {
	all := []seen{{n, around, at}}
	for i, kid := range n.Kids {
		all = append(all, allSeen(kid, append(slices.Clone(around), n), i)...)
	}
	return all
}

// up is what is around a node, the parent first.
func (s seen) up(i int) api.Node {
	if i >= len(s.around) {
		return api.Node{}
	}
	return s.around[len(s.around)-1-i]
}

// ahead are the parent's Kids that stand ahead of a node.
func (s seen) ahead() []api.Node {
	return s.up(0).Kids[:s.at]
}

// told is what the chapter says of a file's tree, read once more: all rules at all nodes, each asked of the whole tree.
func told(root api.Node) (api.Node, api.Fault) {
	all := allSeen(root, nil, 0)
	for i, s := range all {
		for _, rule := range []func([]seen, int) api.Errno{misplaced, aliasThere, thereAlready, tooFar, clashing, writesThis, wrongBlock, notFixed, tooLong} {
			if why := rule(all, i); why != api.OK {
				return api.Node{}, api.Fault{Why: why, At: s.node.Line}
			}
		}
	}
	next := 0
	return rebuilt(all, &next), api.Fault{}
}

// rebuilt is the told tree of the node at which next is.
func rebuilt(all []seen, next *int) api.Node {
	n := all[*next].node
	text, one := toldName(all, *next)
	*next++
	kids := []api.Node{}
	for range n.Kids {
		kids = append(kids, rebuilt(all, next))
	}
	return api.Node{Op: n.Op, Text: text, Int: n.Int + one, Kids: kids, Line: n.Line}
}

func isAmong(s, words string) bool {
	return slices.Contains(strings.Fields(words), s)
}

func isUse(s seen) bool {
	return s.node.Op == "use" && s.up(0).Op != "uses"
}

func misplaced(all []seen, i int) api.Errno {
	s := all[i]
	if isUse(s) && len(s.around) != 1 {
		return api.ErrArg
	}
	if s.node.Op == "namespace" {
		if len(s.around) != 1 {
			return api.ErrArg
		}
		for _, n := range s.ahead() {
			if !isAmong(n.Op, "html empty") {
				return api.ErrArg
			}
		}
	}
	return api.OK
}

// aliasOf is the word of a use statement.
func aliasOf(n api.Node) string {
	words := strings.Split(n.Text, `\`)
	for _, kid := range n.Kids {
		words = append(words, kid.Text)
	}
	return words[len(words)-1]
}

func aliasThere(all []seen, i int) api.Errno {
	s := all[i]
	if isUse(s) && slices.ContainsFunc(s.ahead(), func(n api.Node) bool { return n.Op == "use" && aliasOf(n) == aliasOf(s.node) }) {
		return api.ErrThere
	}
	return api.OK
}

func thereAlready(all []seen, i int) api.Errno {
	s := all[i]
	if isAmong(s.node.Op, "function class const") && len(s.around) == 1 {
		for _, n := range s.ahead() {
			if n.Op == s.node.Op && n.Text == s.node.Text {
				return api.ErrThere
			}
		}
	}
	return api.OK
}

func tooFar(all []seen, i int) api.Errno {
	s := all[i]
	if !isAmong(s.node.Op, "break continue") {
		return api.OK
	}
	loops := 0
	for j := 0; !isAmong(s.up(j).Op, "function method closure file"); j++ {
		if isAmong(s.up(j).Op, "while do for foreach switch") {
			loops++
		}
	}
	if s.node.Int < 1 || s.node.Int > loops {
		return api.ErrLoop
	}
	return api.OK
}

func clashing(all []seen, i int) api.Errno {
	s := all[i]
	var ahead []api.Node
	switch {
	case s.node.Op == "param":
		ahead = s.ahead()
	case s.node.Op == "use" && !isUse(s):
		ahead = slices.Concat(s.up(1).Kids[:len(s.up(1).Kids)-2], s.ahead())
	}
	for _, n := range ahead {
		if n.Text == s.node.Text {
			return api.ErrClash
		}
	}
	return api.OK
}

func writesThis(all []seen, i int) api.Errno {
	s := all[i]
	n := s.node
	words := []string{}
	switch {
	case isAmong(n.Op, "param static catch"), n.Op == "use" && !isUse(s):
		words = append(words, n.Text)
	case isAmong(n.Op, "global foreach spread assign refer pre post unset"):
		for at, kid := range n.Kids {
			read := n.Op == "foreach" && at == 0 || n.Op == "spread" && at == len(n.Kids)-1 || isAmong(n.Op, "assign refer") && at == 1
			if kid.Op == "var" && !read {
				words = append(words, kid.Text)
			}
		}
	}
	if slices.Contains(words, "this") {
		return api.ErrArg
	}
	return api.OK
}

func wrongBlock(all []seen, i int) api.Errno {
	n := all[i].node
	if n.Op != "method" {
		return api.OK
	}
	has := len(n.Kids) > 0 && n.Kids[len(n.Kids)-1].Op != "param"
	abstract, final := n.Int/2%2 == 1, n.Int/4%2 == 1
	good := has != abstract
	if all[i].up(0).Int == 4 {
		good = !has && !abstract && !final
	}
	if !good {
		return api.ErrArg
	}
	return api.OK
}

func notFixed(all []seen, i int) api.Errno {
	if !isAmong(all[i].node.Op, "cconst prop param static") {
		return api.OK
	}
	for _, s := range allSeen(all[i].node, nil, 0)[1:] {
		if !isAmong(s.node.Op, "int text name list item minus not bin") && !(s.node.Op == "classconst" && s.node.Kids[0].Op == "name") {
			return api.ErrArg
		}
	}
	return api.OK
}

func tooLong(all []seen, i int) api.Errno {
	if text, _ := toldName(all, i); text != all[i].node.Text && len(text) > 64 {
		return api.ErrLong
	}
	return api.OK
}

// toldName is the text of a node of the told tree, and what comes to its Int.
func toldName(all []seen, i int) (string, int) {
	s := all[i]
	var space []string
	uses := map[string]string{}
	for _, other := range all[:i] {
		if other.node.Op == "namespace" {
			space = strings.Split(strings.Trim(other.node.Text, `\`), `\`)
		}
		if isUse(other) {
			uses[aliasOf(other.node)] = strings.Trim(other.node.Text, `\`)
		}
	}
	here := strings.Join(append(slices.Clone(space), s.node.Text), `\`)
	words := strings.Split(s.node.Text, `\`)
	parent := s.up(0).Op
	switch {
	case isAmong(s.node.Op, "function class const"):
		return here, 0
	case s.node.Op != "name", parent == "use", parent == "as" && s.at == 1:
		return s.node.Text, 0
	case words[0] == "":
		return strings.Join(words[1:], `\`), 0
	}
	class := isAmong(parent, "parents faces traits catch insteadof as") || isAmong(parent, "scall sfield classconst new") && s.at == 0 || parent == "is" && s.at == 1
	called := parent == "call" && s.at == 0
	switch {
	case class && len(words) == 1 && isAmong(words[0], "self parent static"):
		return words[0], 0
	case !class && !called && len(words) == 1 && isAmong(strings.ToLower(words[0]), "true false null"):
		return strings.ToLower(words[0]), 0
	case !class && len(words) == 1:
		return here, min(1, len(space))
	case uses[words[0]] != "":
		return strings.Join(append([]string{uses[words[0]]}, words[1:]...), `\`), 0
	}
	return here, 0
}
