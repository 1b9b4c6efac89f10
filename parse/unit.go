package parse

import (
	"slices"

	"catapult/api"
	"catapult/tree"
	"catapult/types"
)

// unitReader reads what a file has.
type unitReader struct {
	stmtReader
	unit    api.Unit
	structs []int // where the structs begin
}

// parts reads structs, globals and functions, up to the text's end.
func (r *unitReader) parts() {
	for !r.isOver() {
		if r.opensStruct() {
			r.structure()
		} else {
			r.declaration()
		}
	}
}

// opensStruct tells whether the members of a struct come behind the next two tokens.
func (r *unitReader) opensStruct() bool {
	return r.sees(structKey) && wordOf(r.look(2)) == begin
}

// structure reads a struct.
func (r *unitReader) structure() {
	r.structs = append(r.structs, r.here())
	r.want(structKey)
	s := api.Struct{Name: r.name().Text}
	r.want(begin)
	for !r.take(done) {
		s.Members = append(s.Members, r.members()...)
	}
	r.want(end)
	r.unit.Structs = append(r.unit.Structs, s)
}

// members reads a declaration of a struct's members.
func (r *unitReader) members() []api.Member {
	var l []api.Member
	base := r.base()
	r.list(func() {
		x := r.declarator()
		l = append(l, api.Member{Name: x.name, Type: r.variable(x, base)})
	})
	r.want(end)
	return l
}

// declaration reads a function, or a declaration of globals.
func (r *unitReader) declaration() {
	g := api.Global{At: r.here()}
	g.Var.Volatile = r.take(volatileKey)
	base := r.base()
	x := r.declarator()
	if t := x.of(base); isFunction(t) && !g.Var.Volatile {
		r.function(api.Func{At: g.At, Name: x.name, Type: t, Params: x.params})
		return
	}
	r.global(g, x, base)
	for r.take(comma) {
		r.global(g, r.declarator(), base)
	}
	r.want(end)
}

// function reads what stands behind a function's declarator.
func (r *unitReader) function(f api.Func) {
	switch {
	case r.take(end):
		for i := range f.Params {
			f.Params[i].Volatile = false
		}
	case r.sees(begin) && !slices.ContainsFunc(f.Params, isNameless):
		f.Body = r.tree(r.statement)
	default:
		r.refuse()
	}
	r.unit.Funcs = append(r.unit.Funcs, f)
}

// isNameless tells whether a parameter has no name.
func isNameless(v api.Var) bool { return v.Name == "" }

// global reads what stands behind a global's declarator.
func (r *unitReader) global(g api.Global, x shape, base api.Type) {
	g.Var.Name, g.Var.Type = x.name, r.variable(x, base)
	if r.take(gives) {
		g.Init = r.values()
	}
	r.unit.Globals = append(r.unit.Globals, g)
}

// values reads a global's initial values.
func (r *unitReader) values() []api.Tree {
	isBraced := r.take(begin)
	l := []api.Tree{r.tree(r.assignment)}
	if !isBraced {
		return l
	}
	for r.take(comma) && !r.sees(done) {
		l = append(l, r.tree(r.assignment))
	}
	r.want(done)
	return l
}

// tree reads a tree of its own.
func (r *unitReader) tree(read func()) api.Tree {
	r.nodes = nil
	read()
	return r.nodes
}

// fault is what is wrong with the unit, at the place of what it names.
func (r *unitReader) fault() api.Fault {
	u := r.unit
	f := tree.CheckUnit(u)
	switch {
	case f.Code == api.OK, hasTooMany(u):
	case types.Structs(u.Structs).Code != api.OK:
		f.At = r.structs[f.At]
	case tree.CheckUnit(api.Unit{Structs: u.Structs, Globals: u.Globals}).Code != api.OK:
		f.At = u.Globals[f.At].At
	default:
		f.At = u.Funcs[f.At].At
	}
	return f
}

// hasTooMany tells whether a unit has more of a kind than any may.
func hasTooMany(u api.Unit) bool {
	return len(u.Structs) > api.MaxFields || len(u.Globals) > api.MaxVars || len(u.Funcs) > 2*api.MaxFuncs
}
