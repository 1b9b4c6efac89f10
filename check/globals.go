package check

import (
	"catapult/api"
	"catapult/types"
)

// global is the nodes of a global's scalars, as many as have values.
func (p *program) global(g api.Global) []api.Node {
	if l, ok := characters(g); ok {
		return l
	}
	scalars := p.scalars(g.Var.Type, len(g.Init), nil)
	want(len(scalars) == len(g.Init), g.At, api.ErrType)
	var l []api.Node
	for i, t := range g.Init {
		x := globalTyper{p.typer(t, p.bindings(t))}
		l = append(l, x.initial(scalars[i]))
	}
	return l
}

// characters is the nodes of an array of characters whose value is one string: its bytes, and a 0, if there is room; false of another global.
func characters(g api.Global) ([]api.Node, bool) {
	elem, room := element(g.Var.Type)
	if elem != char || len(g.Init) != 1 || root(g.Init[0]).Kind != api.NString {
		return nil, false
	}
	n := root(g.Init[0])
	want(len(n.Text) <= room, g.At, api.ErrLong)
	var l []api.Node
	for _, b := range []byte(n.Text) {
		l = append(l, api.Node{Kind: api.KInt, At: n.At, Int: int(int8(b)), Type: char})
	}
	if len(l) < room {
		l = append(l, api.Node{Kind: api.KInt, At: n.At, Type: char})
	}
	return l, true
}

// globalTyper types a value of a global.
type globalTyper struct{ exprTyper }

// initial is the node of a scalar of a type that has the value.
func (x *globalTyper) initial(t api.Type) api.Node {
	at := root(x.nodes).At
	v := x.over(x.typed).used().converted(t, at)
	if types.IsInt(t) {
		number, ok := x.constant(x.nodes, t)
		want(ok, at, api.ErrConst)
		return api.Node{Kind: api.KInt, At: at, Int: number, Type: t}
	}
	n, ok := constantPointer(v.tree)
	want(ok, at, api.ErrConst)
	n.Type = t
	return n
}

// constantPointer is the node of what a core tree points to; false, if that is not constant.
func constantPointer(t api.Tree) (api.Node, bool) {
	n, behind := t[0], t[1:]
	switch n.Kind {
	case api.KGlobal, api.KString, api.KFunc:
		if len(behind) > 0 && behind[0].Kind == api.KField && behind[0].Int == 0 {
			behind = behind[1:]
		}
		if len(behind) > 0 && behind[0].Kind == api.KConv {
			behind = behind[1:]
		}
		return n, len(behind) == 0
	}
	return n, n.Kind == api.KNull && len(behind) == 0
}
