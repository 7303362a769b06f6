package name

import (
	"slices"
	"strings"

	"ostler/api"
)

// What the Int of a class and of a method is made of.
const (
	classInterface = 4
	memberAbstract = 2
	memberFinal    = 4
)

// wrong is what is wrong with a node.
func (t *teller) wrong(s spot, loops int) api.Errno {
	n := s.node
	switch n.Op {
	case "namespace":
		return t.namespace(s)
	case "use":
		return t.use(s)
	case "function", "class", "const":
		return t.declare(s)
	case "break", "continue":
		if n.Int < 1 || n.Int > loops {
			return api.ErrLoop
		}
	case "param":
		return firstOf(t.variable(n), initial(n))
	case "static":
		return firstOf(notThis(n.Text), initial(n))
	case "cconst", "prop":
		return initial(n)
	case "method":
		t.begin()
		return method(s)
	case "closure", "fn":
		t.begin()
	}
	return written(n)
}

// firstOf is the first one of some errors that is one.
func firstOf(errs ...api.Errno) api.Errno {
	for _, err := range errs {
		if err != api.OK {
			return err
		}
	}
	return api.OK
}

func (t *teller) namespace(s spot) api.Errno {
	if s.parent.Op != "file" || t.begun {
		return api.ErrArg
	}
	t.space = strings.TrimPrefix(s.node.Text, `\`)
	return api.OK
}

// use is what is wrong with a use statement, or a use of a closure.
func (t *teller) use(s spot) api.Errno {
	n := s.node
	switch s.parent.Op {
	case "uses":
		return t.variable(n)
	case "file":
	default:
		return api.ErrArg
	}
	word := lastWord(n.Text)
	if len(n.Kids) > 0 {
		word = n.Kids[0].Text
	}
	if _, found := t.aliases[word]; found {
		return api.ErrThere
	}
	t.aliases[word] = api.Pair{Name: word, Value: strings.TrimPrefix(n.Text, `\`)}
	return api.OK
}

// declare is what is wrong with a statement that gives something a name.
func (t *teller) declare(s spot) api.Errno {
	n := s.node
	if n.Op == "function" {
		t.begin()
	}
	if s.parent.Op != "file" {
		return api.OK
	}
	d := declared{n.Op, n.Text}
	if _, found := t.declared[d]; found {
		return api.ErrThere
	}
	t.declared[d] = struct{}{}
	return api.OK
}

// begin begins a function.
func (t *teller) begin() {
	clear(t.variables)
}

// variable is what is wrong with the variable of a param or of a use of a closure.
func (t *teller) variable(n *api.Node) api.Errno {
	if _, found := t.variables[n.Text]; found {
		return api.ErrClash
	}
	t.variables[n.Text] = struct{}{}
	return notThis(n.Text)
}

// notThis is what is wrong with the word of a variable that is made or written.
func notThis(word string) api.Errno {
	if word == "this" {
		return api.ErrArg
	}
	return api.OK
}

// written is what is wrong with the variables that a node writes.
func written(n *api.Node) api.Errno {
	if n.Op == "catch" {
		return notThis(n.Text)
	}
	for _, place := range places(n) {
		if place.Op == "var" && place.Text == "this" {
			return api.ErrArg
		}
	}
	return api.OK
}

// places are what a node writes.
func places(n *api.Node) []api.Node {
	count := len(n.Kids)
	switch n.Op {
	case "global":
		return n.Kids
	case "assign", "refer", "pre", "post", "unset":
		return n.Kids[:min(count, 1)]
	case "spread":
		return n.Kids[:max(count-1, 0)]
	case "foreach":
		return n.Kids[min(count, 1):min(count, 3)]
	}
	return nil
}

// method is what is wrong with a method's block, or with there being none.
func method(s spot) api.Errno {
	n := s.node
	block := slices.ContainsFunc(n.Kids, isBlock)
	abstract := n.Int&memberAbstract != 0
	if s.parent.Op == "class" && s.parent.Int == classInterface {
		if block || abstract || n.Int&memberFinal != 0 {
			return api.ErrArg
		}
		return api.OK
	}
	if block == abstract {
		return api.ErrArg
	}
	return api.OK
}

func isBlock(n api.Node) bool {
	return n.Op == "block"
}

// initial is what is wrong with what a node is at first.
func initial(n *api.Node) api.Errno {
	for _, kid := range n.Kids {
		if !isFixed(kid) {
			return api.ErrArg
		}
	}
	return api.OK
}

// isFixed tells whether there is nothing in an expression but what may be in one that stands for what something is at first.
func isFixed(n api.Node) bool {
	switch n.Op {
	case "int", "text", "name", "list", "item", "minus", "not", "bin":
	case "classconst":
		return len(n.Kids) == 1 && n.Kids[0].Op == "name"
	default:
		return false
	}
	for _, kid := range n.Kids {
		if !isFixed(kid) {
			return false
		}
	}
	return true
}
