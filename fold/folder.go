package fold

import (
	"catapult/api"
	"catapult/tree"
	"catapult/types"
)

// folder goes over a tree from its front, so that each node is come to when its parts are known.
type folder struct {
	source  api.Tree
	structs []api.Struct
	sizes   map[api.Type]value // of the types that were asked for by now
	parts   []part             // those that are parts of no whole yet
	folded  api.Tree           // what these are folded to, one behind the other
}

// reckon is what an expression comes to, and what it is folded to; or what is wrong with it or with the structs.
func reckon(t api.Tree, l []api.Struct) (value, api.Tree, api.Errno) {
	if e := check(t, l); e != api.OK {
		return value{}, nil, e
	}
	f := folder{source: t, structs: l, sizes: map[api.Type]value{}}
	for at := range t {
		f.node(at)
	}
	return f.parts[0].value, f.folded, api.OK
}

// check tells what is wrong with an expression, or with the structs.
func check(t api.Tree, l []api.Struct) api.Errno {
	if e := tree.Check(t); e != api.OK {
		return e
	}
	if !isExpression(t[len(t)-1]) {
		return api.ErrShape
	}
	return types.Structs(l).Code
}

// isExpression tells whether a node of a right tree is that of an expression.
func isExpression(n api.Node) bool { return n.Kind <= api.NSizeT }

// node joins a node with its parts, and folds it.
func (f *folder) node(at int) {
	n := f.source[at]
	rest := len(f.parts) - n.N
	parts := f.parts[rest:]
	whole := part{value: f.value(n, parts...), from: at, folded: len(f.folded)}
	if n.N > 0 {
		whole.from, whole.folded = parts[0].from, parts[0].folded
	}
	f.parts = append(f.parts[:rest], whole)
	f.fold(at, whole)
}

// value is what a node comes to.
func (f *folder) value(n api.Node, parts ...part) value {
	if n.Kind == api.NSizeT {
		return f.size(n.Type)
	}
	return join(n, parts...)
}

// size is what the size of a type comes to; of no type, if it has none.
func (f *folder) size(t api.Type) value {
	v, ok := f.sizes[t]
	if ok {
		return v
	}
	if bytes, _, e := types.Size(t, f.structs); e == api.OK {
		v = unsigned.of(bytes)
	}
	f.sizes[t] = v
	return v
}

// fold puts a part behind those that are folded, in place of its own parts.
func (f *folder) fold(at int, p part) {
	n := f.source[at]
	number := p.tree(n.At)
	switch {
	case n.Kind == api.NSizeof:
		f.folded = append(f.folded[:p.folded], f.source[p.from:at+1]...)
	case n.Kind != api.NInt && len(number) > 0:
		f.folded = append(f.folded[:p.folded], number...)
	default:
		f.folded = append(f.folded, n)
	}
}
