package show

import "ostler/api"

// What the Int of a class is made of.
const (
	classAbstract  = 1
	classFinal     = 2
	classInterface = 4
	classTrait     = 8
)

// What the Int of a prop and a method is made of.
const (
	memberStatic   = 1
	memberAbstract = 2
	memberFinal    = 4
)

// members are what the members of a class are written as.
func members() table {
	return table{
		"cconst": (*writer).constant,
		"prop":   (*writer).prop,
		"method": (*writer).method,
		"traits": (*writer).traits,
	}
}

// rules are what the rules of a use of traits are written as.
func rules() table {
	return table{
		"insteadof": (*writer).insteadof,
		"as":        (*writer).as,
	}
}

func (w *writer) class(n api.Node) {
	w.put(classWords(n.Int), n.Text)
	if parents := kid(n, 0); parents.Op == "parents" {
		w.namesBehind(" extends ", parents.Kids)
	}
	if faces := kid(n, 1); faces.Op == "faces" {
		w.namesBehind(" implements ", faces.Kids)
	}
	w.put(" { ")
	w.spaced(behind(n, 2), w.member)
	w.put("}")
}

func classWords(kind int) string {
	switch {
	case kind&classInterface != 0:
		return "interface "
	case kind&classTrait != 0:
		return "trait "
	case kind&classAbstract != 0:
		return "abstract class "
	case kind&classFinal != 0:
		return "final class "
	}
	return "class "
}

// namesBehind writes names behind a word, if there are any.
func (w *writer) namesBehind(word string, names []api.Node) {
	if len(names) > 0 {
		w.put(word)
		w.joined(names, ", ", w.name)
	}
}

func (w *writer) member(n api.Node) {
	w.by(w.members, n)
}

func (w *writer) prop(n api.Node) {
	w.put("public ", staticWord(n.Int), "$", n.Text)
	w.initial(n)
	w.ended()
}

func (w *writer) method(n api.Node) {
	w.put("public ", methodWord(n.Int), staticWord(n.Int), "function ", n.Text)
	if len(n.Kids) == 0 || fromEnd(n, 0).Op == "param" {
		w.params(n.Kids)
		w.ended()
		return
	}
	w.params(ahead(n, 1))
	w.put(" ")
	w.stmt(fromEnd(n, 0))
}

func methodWord(kind int) string {
	switch {
	case kind&memberAbstract != 0:
		return "abstract "
	case kind&memberFinal != 0:
		return "final "
	}
	return ""
}

func staticWord(kind int) string {
	if kind&memberStatic != 0 {
		return "static "
	}
	return ""
}

func (w *writer) traits(n api.Node) {
	count := 0
	for count < len(n.Kids) && n.Kids[count].Op == "name" {
		count++
	}
	w.put("use ")
	w.joined(n.Kids[:count], ", ", w.name)
	if count == len(n.Kids) {
		w.ended()
		return
	}
	w.put(" { ")
	for _, rule := range n.Kids[count:] {
		w.by(w.rules, rule)
	}
	w.put("}")
}

func (w *writer) insteadof(n api.Node) {
	w.ruled(n)
	w.put(" insteadof ")
	w.joined(behind(n, 1), ", ", w.name)
	w.put("; ")
}

func (w *writer) as(n api.Node) {
	w.ruled(n)
	w.put(" as ")
	w.name(kid(n, 1))
	w.put("; ")
}

// ruled writes the method that a rule is about, with its trait, if that is told.
func (w *writer) ruled(n api.Node) {
	if trait := kid(n, 0); trait.Op == "name" {
		w.name(trait)
		w.put("::")
	}
	w.put(n.Text)
}
