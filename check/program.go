package check

import (
	"slices"

	"catapult/api"
	"catapult/names"
	"catapult/tree"
	"catapult/types"
)

// meaning is what a name stands for where no slot has it.
type meaning struct {
	api.Binding
	hasBody bool // of a function
}

// program is what is known of a unit, and the strings that were come to.
type program struct {
	layouts
	known   map[string]meaning
	funcs   []api.Func // one for each name
	strings []string
}

// mainName is the name of the function with which a program begins.
const mainName = "main"

// programOf is what is known of a unit, or the fault of its file.
func programOf(u api.Unit) (*program, api.Fault) {
	bindings, texts, f := names.File(u)
	if f.Code != api.OK {
		return nil, f
	}
	p := &program{layouts: layoutsOf(u.Structs), known: map[string]meaning{}}
	p.funcs, _ = names.Funcs(u) // what is wrong with the file, File has told
	for i, v := range names.Built() {
		p.known[v.Name] = meaning{Binding: api.Binding{Kind: api.NameBuilt, Index: i, Type: v.Type}}
	}
	for i, b := range bindings {
		p.known[texts[i]] = meaning{b, b.Kind == api.NameFunc && hasBody(p.funcs[b.Index])}
	}
	return p, api.Fault{}
}

// hasBody tells whether a function is no prototype.
func hasBody(f api.Func) bool { return len(f.Body) > 0 }

// core is the core program of the unit.
func (p *program) core(u api.Unit) api.Core {
	c := api.Core{Structs: slices.Clone(u.Structs)}
	for i, s := range c.Structs {
		c.Structs[i].Members = slices.Clone(s.Members)
	}
	for _, g := range u.Globals {
		c.Globals = append(c.Globals, api.CoreVar{Name: g.Var.Name, Type: g.Var.Type, Init: p.global(g)})
	}
	outlines := outlined(u.Globals, p.funcs)
	for i, f := range p.funcs {
		if hasBody(f) {
			outlines.Funcs[i] = f
			c.Funcs = append(c.Funcs, p.function(outlines, f))
			outlines.Funcs[i] = outline(f)
		}
	}
	main := p.known[mainName]
	want(main.hasBody && main.Type == mainType, 0, api.ErrMain)
	want(len(p.strings) <= api.MaxItems, 0, api.ErrLong)
	c.Strings = p.strings
	return c
}

// outlined is a unit of the same names in which nothing is to be looked at, so that each function's names are looked up without going over all others once more.
func outlined(globals []api.Global, funcs []api.Func) api.Unit {
	var u api.Unit
	for _, g := range globals {
		u.Globals = append(u.Globals, api.Global{Var: api.Var{Name: g.Var.Name, Type: integer}})
	}
	for _, f := range funcs {
		u.Funcs = append(u.Funcs, outline(f))
	}
	return u
}

// outline is a function of which nothing but the name is told.
func outline(f api.Func) api.Func { return api.Func{Name: f.Name, Type: mainType} }

// function types a function among the outlines of all others.
func (p *program) function(outlines api.Unit, f api.Func) api.CoreFunc {
	slots, bindings, fault := names.Resolve(outlines, f.Name)
	want(fault.Code == api.OK, fault.At, fault.Code)
	answer, _, _ := types.Sign(f.Type) // the file is right
	s := stmtTyper{exprTyper: p.typer(f.Body, bindings), answer: answer, numbers: map[int]int{}, labels: map[label]int{}}
	body := s.over(s.typed)
	return api.CoreFunc{Name: f.Name, Type: f.Type, Slots: slots, Body: body.single()}
}

// typer types expressions of a tree.
func (p *program) typer(t api.Tree, bindings []api.Binding) exprTyper {
	l, _ := locate(t) // the tree is right
	return exprTyper{program: p, located: l, bindings: bindings}
}

// expression types an expression that stands in no function, among slots.
func (p *program) expression(t api.Tree, slots ...api.Slot) value {
	x := p.typer(t, p.bindings(t, slots...))
	return x.over(x.typed).value
}

// bindings is what the names of an expression stand for: the last slot of a name, else what the file has, else what is built in.
func (p *program) bindings(t api.Tree, slots ...api.Slot) []api.Binding {
	own := map[string]api.Binding{}
	for i, s := range slots {
		own[s.Name] = api.Binding{Kind: api.NameSlot, Index: i, Type: s.Type}
	}
	l := make([]api.Binding, len(t))
	places, _ := tree.Walk(t) // the tree is right
	for at := range places {
		n := t[at]
		if n.Kind != api.NName {
			continue
		}
		b, ok := own[n.Text]
		if !ok {
			b = p.known[n.Text].Binding
		}
		want(b.Kind != 0, n.At, api.ErrName)
		l[at] = b
	}
	return l
}

// fault is what is wrong with slots, and with an expression that is to stand among them.
func (p *program) fault(slots []api.Slot, t api.Tree) api.Fault {
	if len(slots) > api.MaxVars {
		return api.Fault{Code: api.ErrLong}
	}
	for i, s := range slots {
		if e := p.slotError(s); e != api.OK {
			return api.Fault{At: i, Code: e}
		}
	}
	if e := tree.Check(t); e != api.OK {
		return api.Fault{Code: e}
	}
	if !isExpression(root(t)) {
		return api.Fault{Code: api.ErrShape}
	}
	return api.Fault{}
}

// slotError is what is wrong with a slot.
func (p *program) slotError(s api.Slot) api.Errno {
	switch x := p.extent(s.Type); {
	case x.code != api.OK:
		return x.code
	case x.bytes == 0 || !isName(s.Name):
		return api.ErrShape
	}
	return api.OK
}

// isName tells whether a text is a name.
func isName(s string) bool {
	return tree.Check(api.Tree{{Kind: api.NName, Text: s}}) == api.OK
}
