package tree

import "catapult/api"

// printer writes a tree into the text that it embeds.
type printer struct {
	*text
	grown
}

// unit writes a unit that is right.
func (w *text) unit(u api.Unit) {
	for _, s := range u.Structs {
		w.structure(s)
	}
	for _, g := range u.Globals {
		w.global(g)
	}
	for _, f := range u.Funcs {
		w.function(f)
	}
}

// global writes a global variable.
func (w *text) global(g api.Global) {
	w.declare(g.Var)
	if len(g.Init) > 0 {
		w.words("=")
		w.initial(g)
	}
	w.words(end)
	w.line()
}

// initial writes the value that a global has at first.
func (w *text) initial(g api.Global) {
	if len(g.Init) == 1 && (!hasMembers(g.Var.Type) || whole(g.Init[0]).Kind == api.NString) {
		w.expression(g.Init[0], assignLevel)
		return
	}
	w.words("{")
	for i, t := range g.Init {
		w.when(i > 0, comma)
		w.expression(t, assignLevel)
	}
	w.words("}")
}

// function writes a function.
func (w *text) function(f api.Func) {
	w.head(f)
	if isPrototype(f) {
		w.words(end)
	} else {
		p := printing(w, f.Body)
		p.statement(p.last())
	}
	w.line()
}

// expression writes an expression, in brackets if it is looser than the level.
func (w *text) expression(t api.Tree, loosest int) {
	p := printing(w, t)
	p.part(p.last(), loosest)
}

// printing is a printer of a tree that is right.
func printing(w *text, t api.Tree) printer {
	g, _ := grow(t)
	return printer{w, g}
}
