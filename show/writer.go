package show

import "ostler/api"

// table is what nodes of an Op are written as; of an Op that is not in it nothing is written.
type table map[string]func(*writer, api.Node)

// writer puts a tree's text together. As soon as that is too long, nothing more is put to it.
type writer struct {
	text        []byte
	long        bool
	statements  table
	cases       table
	catches     table
	members     table
	rules       table
	expressions table
	inTexts     table
	keysInTexts table
}

func newWriter() *writer {
	return &writer{
		statements:  statements(),
		cases:       cases(),
		catches:     catches(),
		members:     members(),
		rules:       rules(),
		expressions: expressions(),
		inTexts:     inTexts(),
		keysInTexts: keysInTexts(),
	}
}

func (w *writer) put(texts ...string) {
	for _, text := range texts {
		w.long = w.long || len(text) > api.MaxFile-len(w.text)
		if w.long {
			return
		}
		w.text = append(w.text, text...)
	}
}

// file writes a node's Kids as statements of a file, whatever the node is.
func (w *writer) file(n api.Node) {
	w.put("<?php ")
	w.spaced(n.Kids, w.stmt)
}

func (w *writer) by(t table, n api.Node) {
	if write, found := t[n.Op]; found {
		write(w, n)
	}
}

func (w *writer) stmt(n api.Node) {
	w.by(w.statements, n)
}

func (w *writer) expr(n api.Node) {
	w.by(w.expressions, n)
}

// spaced writes nodes, each with a blank behind it.
func (w *writer) spaced(nodes []api.Node, write func(api.Node)) {
	for _, n := range nodes {
		write(n)
		w.put(" ")
	}
}

// joined writes nodes with a sign between.
func (w *writer) joined(nodes []api.Node, sign string, write func(api.Node)) {
	for i, n := range nodes {
		if i > 0 {
			w.put(sign)
		}
		write(n)
	}
}

// ended writes the `;` of what ends a statement or a member.
func (w *writer) ended() {
	w.put(";")
}

// variable writes a var.
func (w *writer) variable(n api.Node) {
	if n.Op == "var" {
		w.put("$", n.Text)
	}
}

// name writes a name.
func (w *writer) name(n api.Node) {
	if n.Op == "name" {
		w.put(n.Text)
	}
}

// ref writes what means a class.
func (w *writer) ref(n api.Node) {
	w.name(n)
	w.variable(n)
}

// kid is one of a node's Kids; a node without an Op, if it is not there.
func kid(n api.Node, at int) api.Node {
	if at < 0 || at >= len(n.Kids) {
		return api.Node{}
	}
	return n.Kids[at]
}

// behind are a node's Kids behind so many of them.
func behind(n api.Node, count int) []api.Node {
	return n.Kids[min(count, len(n.Kids)):]
}

// ahead are a node's Kids ahead of so many at their end.
func ahead(n api.Node, count int) []api.Node {
	return n.Kids[:max(0, len(n.Kids)-count)]
}

// fromEnd is the one of a node's Kids that has so many of them behind it.
func fromEnd(n api.Node, count int) api.Node {
	return kid(n, len(n.Kids)-1-count)
}
