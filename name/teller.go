package name

import (
	"strings"

	"ostler/api"
)

// declared is a statement that gives something a name.
type declared struct {
	op, text string
}

// teller tells the names of a tree, whose nodes it meets in their order.
type teller struct {
	space string
	// begun is whether the file has a Kid already behind which no namespace may stand.
	begun    bool
	aliases  map[string]api.Pair
	declared map[declared]struct{}
	// variables are those of the params and uses of the function that began last. No other one begins among these: their defaults have none.
	variables map[string]struct{}
}

func newTeller() *teller {
	return &teller{
		aliases:   map[string]api.Pair{},
		declared:  map[declared]struct{}{},
		variables: map[string]struct{}{},
	}
}

// meet is what is wrong with a node; where nothing is, its name is told.
func (t *teller) meet(s spot, loops int) api.Errno {
	if why := t.wrong(s, loops); why != api.OK {
		return why
	}
	if s.parent.Op == "file" && s.node.Op != "html" && s.node.Op != "empty" {
		t.begun = true
	}
	return t.tell(s)
}

// tell tells the name that a node is, or declares.
func (t *teller) tell(s spot) api.Errno {
	n := s.node
	switch n.Op {
	case "function", "class", "const":
		n.Text = within(t.space, n.Text)
	case "name":
		t.tellName(s)
	default:
		return api.OK
	}
	if len(n.Text) > api.MaxName {
		return api.ErrLong
	}
	return api.OK
}

// What a name node is the name of.
const (
	ofClass = iota
	ofFunction
	ofConstant
	ofNothing
)

// namedBy is what a name node is the name of, by where it stands.
func namedBy(s spot) int {
	switch s.parent.Op {
	case "parents", "faces", "traits", "catch", "insteadof":
		return ofClass
	case "scall", "sfield", "classconst", "new":
		return firstOr(s, ofClass, ofConstant)
	case "is":
		return firstOr(s, ofConstant, ofClass)
	case "call":
		return firstOr(s, ofFunction, ofConstant)
	case "as":
		return firstOr(s, ofClass, ofNothing)
	case "use":
		return ofNothing
	}
	return ofConstant
}

// firstOr is one of two, by whether a node is the first one of its parent's Kids.
func firstOr(s spot, first, other int) int {
	if s.at == 0 {
		return first
	}
	return other
}

func (t *teller) tellName(s spot) {
	n := s.node
	switch namedBy(s) {
	case ofClass:
		n.Text = t.class(n.Text)
	case ofFunction:
		n.Text, n.Int = t.free(n.Text)
	case ofConstant:
		n.Text, n.Int = t.constant(n.Text)
	}
}

// class is what a class's name means here.
func (t *teller) class(s string) string {
	if use, found := t.aliases[firstWord(s)]; found {
		return Means(t.space, s, use)
	}
	return Means(t.space, s)
}

// constant is what a constant's name means here, and 1, if it may mean its last word alone.
func (t *teller) constant(s string) (string, int) {
	switch small := strings.ToLower(s); small {
	case "true", "false", "null":
		return small, 0
	}
	return t.free(s)
}

// free is what the name of what no class has means here, and 1, if it may mean its last word alone.
func (t *teller) free(s string) (string, int) {
	if strings.Contains(s, `\`) {
		return t.class(s), 0
	}
	if t.space == "" {
		return s, 0
	}
	return within(t.space, s), 1
}
