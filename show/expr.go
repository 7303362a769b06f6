package show

import (
	"strconv"

	"ostler/api"
)

// expressions are what expressions are written as.
func expressions() table {
	return table{
		"assign":     (*writer).assign,
		"refer":      (*writer).refer,
		"spread":     (*writer).spread,
		"include":    (*writer).include,
		"cond":       (*writer).cond,
		"bin":        (*writer).bin,
		"not":        (*writer).not,
		"minus":      (*writer).minus,
		"clone":      (*writer).clone,
		"pre":        (*writer).pre,
		"cast":       (*writer).cast,
		"post":       (*writer).post,
		"is":         (*writer).is,
		"index":      (*writer).index,
		"field":      (*writer).field,
		"call":       (*writer).call,
		"mcall":      (*writer).mcall,
		"scall":      (*writer).scall,
		"new":        (*writer).newObject,
		"sfield":     (*writer).sfield,
		"classconst": (*writer).classconst,
		"var":        (*writer).variable,
		"int":        (*writer).number,
		"name":       (*writer).name,
		"text":       (*writer).plainText,
		"parts":      (*writer).parts,
		"list":       (*writer).list,
		"isset":      (*writer).isset,
		"isempty":    (*writer).isempty,
		"exit":       (*writer).exit,
		"closure":    (*writer).closure,
		"fn":         (*writer).fn,
	}
}

// operand writes an expression as an operand: in brackets, where it needs any.
func (w *writer) operand(n api.Node) {
	if _, found := w.expressions[n.Op]; !found {
		return
	}
	if isClosed(n.Op) {
		w.expr(n)
		return
	}
	w.put("(")
	w.expr(n)
	w.put(")")
}

// isClosed tells whether expressions of an Op are operands without brackets.
func isClosed(op string) bool {
	switch op {
	case "var", "int", "text", "parts", "name", "list", "index", "field", "mcall", "call", "scall", "sfield", "classconst", "isset", "isempty":
		return true
	}
	return false
}

func (w *writer) assign(n api.Node) {
	w.operand(kid(n, 0))
	w.put(" ", n.Text, " ")
	w.expr(kid(n, 1))
}

func (w *writer) refer(n api.Node) {
	w.variable(kid(n, 0))
	w.put(" = &")
	w.variable(kid(n, 1))
}

func (w *writer) spread(n api.Node) {
	w.put("[")
	w.joined(ahead(n, 1), ", ", w.variable)
	w.put("] = ")
	w.expr(fromEnd(n, 0))
}

func (w *writer) include(n api.Node) {
	w.put(n.Text, " ")
	w.expr(kid(n, 0))
}

func (w *writer) cond(n api.Node) {
	w.operand(kid(n, 0))
	w.put(" ? ")
	if middle := kid(n, 1); middle.Op != "none" {
		w.expr(middle)
		w.put(" ")
	}
	w.put(": ")
	w.expr(kid(n, 2))
}

func (w *writer) bin(n api.Node) {
	w.operand(kid(n, 0))
	w.put(" ", n.Text, " ")
	w.operand(kid(n, 1))
}

func (w *writer) not(n api.Node) {
	w.put("!")
	w.operand(kid(n, 0))
}

func (w *writer) minus(n api.Node) {
	w.put("- ")
	w.operand(kid(n, 0))
}

func (w *writer) clone(n api.Node) {
	w.put("clone ")
	w.operand(kid(n, 0))
}

func (w *writer) pre(n api.Node) {
	w.put(n.Text)
	w.operand(kid(n, 0))
}

func (w *writer) cast(n api.Node) {
	w.put("(", n.Text, ") ")
	w.operand(kid(n, 0))
}

func (w *writer) post(n api.Node) {
	w.operand(kid(n, 0))
	w.put(n.Text)
}

func (w *writer) is(n api.Node) {
	w.operand(kid(n, 0))
	w.put(" instanceof ")
	w.ref(kid(n, 1))
}

func (w *writer) index(n api.Node) {
	w.operand(kid(n, 0))
	w.put("[")
	w.expr(kid(n, 1))
	w.put("]")
}

func (w *writer) field(n api.Node) {
	w.operand(kid(n, 0))
	w.put("->", n.Text)
}

// args writes arguments, which stand behind the first one of a node's Kids.
func (w *writer) args(n api.Node) {
	w.put("(")
	w.joined(behind(n, 1), ", ", w.expr)
	w.put(")")
}

func (w *writer) call(n api.Node) {
	w.operand(kid(n, 0))
	w.args(n)
}

func (w *writer) mcall(n api.Node) {
	w.field(n)
	w.args(n)
}

func (w *writer) scall(n api.Node) {
	w.classconst(n)
	w.args(n)
}

func (w *writer) newObject(n api.Node) {
	w.put("new ")
	w.ref(kid(n, 0))
	w.args(n)
}

func (w *writer) sfield(n api.Node) {
	w.ref(kid(n, 0))
	w.put("::$", n.Text)
}

func (w *writer) classconst(n api.Node) {
	w.ref(kid(n, 0))
	w.put("::", n.Text)
}

func (w *writer) number(n api.Node) {
	w.put(strconv.Itoa(n.Int))
}

func (w *writer) list(n api.Node) {
	w.put("[")
	w.joined(n.Kids, ", ", w.item)
	w.put("]")
}

func (w *writer) item(n api.Node) {
	if n.Op == "item" {
		w.joined(n.Kids[:min(2, len(n.Kids))], " => ", w.expr)
	}
}

func (w *writer) isset(n api.Node) {
	w.put("isset(")
	w.expr(kid(n, 0))
	w.put(")")
}

func (w *writer) isempty(n api.Node) {
	w.put("empty(")
	w.expr(kid(n, 0))
	w.put(")")
}

func (w *writer) exit(n api.Node) {
	w.put("exit")
	if len(n.Kids) > 0 {
		w.put("(")
		w.expr(n.Kids[0])
		w.put(")")
	}
}

func (w *writer) closure(n api.Node) {
	w.put("function")
	w.params(ahead(n, 2))
	if uses := fromEnd(n, 1); uses.Op == "uses" && len(uses.Kids) > 0 {
		w.put(" use (")
		w.joined(uses.Kids, ", ", w.use)
		w.put(")")
	}
	w.put(" ")
	w.stmt(fromEnd(n, 0))
}

// use writes a variable that a closure keeps.
func (w *writer) use(n api.Node) {
	if n.Op == "use" {
		w.byReference(n)
	}
}

func (w *writer) fn(n api.Node) {
	w.put("fn")
	w.params(ahead(n, 1))
	w.put(" => ")
	w.expr(fromEnd(n, 0))
}
