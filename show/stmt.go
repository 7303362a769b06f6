package show

import (
	"strconv"

	"ostler/api"
)

// statements are what statements are written as.
func statements() table {
	return table{
		"html":      (*writer).html,
		"empty":     (*writer).empty,
		"block":     (*writer).block,
		"expr":      (*writer).exprStmt,
		"echo":      (*writer).echoStmt,
		"if":        (*writer).ifStmt,
		"while":     (*writer).whileStmt,
		"do":        (*writer).doStmt,
		"for":       (*writer).forStmt,
		"foreach":   (*writer).foreachStmt,
		"switch":    (*writer).switchStmt,
		"break":     (*writer).leaveStmt,
		"continue":  (*writer).leaveStmt,
		"return":    (*writer).returnStmt,
		"throw":     (*writer).throwStmt,
		"global":    (*writer).globalStmt,
		"static":    (*writer).staticStmt,
		"unset":     (*writer).unsetStmt,
		"const":     (*writer).constant,
		"try":       (*writer).tryStmt,
		"namespace": (*writer).namespaceStmt,
		"use":       (*writer).useStmt,
		"function":  (*writer).functionStmt,
		"class":     (*writer).class,
	}
}

// cases are what the cases of a switch are written as.
func cases() table {
	return table{
		"case":    (*writer).caseOf,
		"default": (*writer).defaultCase,
	}
}

// catches are what stands behind the block of a try.
func catches() table {
	return table{
		"catch":   (*writer).catch,
		"finally": (*writer).finally,
	}
}

func (w *writer) html(n api.Node) {
	w.put("?>\n", n.Text, "<?php ")
}

func (w *writer) empty(n api.Node) {
	w.ended()
}

func (w *writer) block(n api.Node) {
	w.put("{ ")
	w.spaced(n.Kids, w.stmt)
	w.put("}")
}

func (w *writer) exprStmt(n api.Node) {
	w.expr(kid(n, 0))
	w.ended()
}

func (w *writer) echoStmt(n api.Node) {
	w.put("echo ")
	w.joined(n.Kids, ", ", w.expr)
	w.ended()
}

// test writes an expression in brackets, behind a word, and the statement that hangs on it.
func (w *writer) test(word string, test, body api.Node) {
	w.put(word, " (")
	w.expr(test)
	w.put(") ")
	w.stmt(body)
}

func (w *writer) ifStmt(n api.Node) {
	w.test("if", kid(n, 0), kid(n, 1))
	rest := behind(n, 2)
	for len(rest) > 1 {
		w.test(" elseif", rest[0], rest[1])
		rest = rest[2:]
	}
	if len(rest) > 0 {
		w.put(" else ")
		w.stmt(rest[0])
	}
}

func (w *writer) whileStmt(n api.Node) {
	w.test("while", kid(n, 0), kid(n, 1))
}

func (w *writer) doStmt(n api.Node) {
	w.put("do ")
	w.stmt(kid(n, 0))
	w.put(" while (")
	w.expr(kid(n, 1))
	w.put(")")
	w.ended()
}

func (w *writer) forStmt(n api.Node) {
	w.put("for (")
	w.expr(kid(n, 0))
	w.put("; ")
	w.expr(kid(n, 1))
	w.put("; ")
	w.expr(kid(n, 2))
	w.put(") ")
	w.stmt(kid(n, 3))
}

func (w *writer) foreachStmt(n api.Node) {
	w.put("foreach (")
	w.expr(kid(n, 0))
	w.put(" as ")
	if key := kid(n, 1); key.Op == "var" {
		w.variable(key)
		w.put(" => ")
	}
	w.variable(kid(n, 2))
	w.put(") ")
	w.stmt(kid(n, 3))
}

func (w *writer) switchStmt(n api.Node) {
	w.put("switch (")
	w.expr(kid(n, 0))
	w.put(") { ")
	for _, one := range behind(n, 1) {
		w.by(w.cases, one)
	}
	w.put("}")
}

func (w *writer) caseOf(n api.Node) {
	w.put("case ")
	w.expr(kid(n, 0))
	w.put(": ")
	w.spaced(behind(n, 1), w.stmt)
}

func (w *writer) defaultCase(n api.Node) {
	w.put("default: ")
	w.spaced(n.Kids, w.stmt)
}

// leaveStmt writes a break or a continue.
func (w *writer) leaveStmt(n api.Node) {
	w.put(n.Op, " ", strconv.Itoa(n.Int))
	w.ended()
}

func (w *writer) returnStmt(n api.Node) {
	w.put("return")
	if len(n.Kids) > 0 {
		w.put(" ")
		w.expr(n.Kids[0])
	}
	w.ended()
}

func (w *writer) throwStmt(n api.Node) {
	w.put("throw ")
	w.exprStmt(n)
}

func (w *writer) globalStmt(n api.Node) {
	w.put("global ")
	w.joined(n.Kids, ", ", w.variable)
	w.ended()
}

func (w *writer) staticStmt(n api.Node) {
	w.put("static $", n.Text)
	w.initial(n)
	w.ended()
}

// initial writes what a variable is at first, if that is told.
func (w *writer) initial(n api.Node) {
	if len(n.Kids) > 0 {
		w.put(" = ")
		w.expr(n.Kids[0])
	}
}

func (w *writer) unsetStmt(n api.Node) {
	w.put("unset(")
	w.expr(kid(n, 0))
	w.put(")")
	w.ended()
}

// constant writes a constant of a file or of a class.
func (w *writer) constant(n api.Node) {
	w.put("const ", n.Text, " = ")
	w.exprStmt(n)
}

func (w *writer) tryStmt(n api.Node) {
	w.put("try ")
	w.stmt(kid(n, 0))
	for _, one := range behind(n, 1) {
		w.by(w.catches, one)
	}
}

func (w *writer) catch(n api.Node) {
	w.put(" catch (")
	w.joined(ahead(n, 1), " | ", w.name)
	if n.Text != "" {
		w.put(" $", n.Text)
	}
	w.put(") ")
	w.stmt(fromEnd(n, 0))
}

func (w *writer) finally(n api.Node) {
	w.put(" finally ")
	w.stmt(kid(n, 0))
}

func (w *writer) namespaceStmt(n api.Node) {
	w.put("namespace ", n.Text)
	w.ended()
}

func (w *writer) useStmt(n api.Node) {
	w.put("use ", n.Text)
	if len(n.Kids) > 0 {
		w.put(" as ")
		w.name(n.Kids[0])
	}
	w.ended()
}

func (w *writer) functionStmt(n api.Node) {
	w.put("function ", n.Text)
	w.params(ahead(n, 1))
	w.put(" ")
	w.stmt(fromEnd(n, 0))
}

func (w *writer) params(params []api.Node) {
	w.put("(")
	w.joined(params, ", ", w.param)
	w.put(")")
}

func (w *writer) param(n api.Node) {
	if n.Op == "param" {
		w.byReference(n)
		w.initial(n)
	}
}

// byReference writes a variable with a `&` ahead, if it is one by reference.
func (w *writer) byReference(n api.Node) {
	if n.Int != 0 {
		w.put("&")
	}
	w.put("$", n.Text)
}
