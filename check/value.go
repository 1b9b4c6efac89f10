package check

import (
	"slices"

	"catapult/api"
)

// build is a core tree made of a node and its parts.
func build(n api.Node, parts ...api.Tree) api.Tree {
	n.N = len(parts)
	return append(slices.Concat(parts...), n)
}

// root is the node of a whole tree.
func root(t api.Tree) api.Node { return t[len(t)-1] }

// silent is a core tree of a node that no text stands for: its place is that of its first part.
func silent(n api.Node, parts ...api.Tree) api.Tree {
	n.At = root(parts[0]).At
	return build(n, parts...)
}

// value is an expression that is typed: its type, and its core tree, which is of a place that of its address. The name of a built-in function has no tree.
type value struct {
	api.Type
	tree      api.Tree
	isPlace   bool
	isNothing bool // it may be any pointer
}

// valueOf is a value whose core tree is a node behind its parts; of a struct that is its address.
func valueOf(t api.Type, n api.Node, parts ...api.Tree) value {
	n.Type = t
	if isStruct(t) {
		n.Type = pointerTo(t)
	}
	return value{Type: t, tree: build(n, parts...)}
}

// placeOf is a place whose address is a node behind its parts.
func placeOf(t api.Type, n api.Node, parts ...api.Tree) value {
	n.Type = pointerTo(t)
	return value{Type: t, tree: build(n, parts...), isPlace: true}
}

// under is what a silent node makes of a value.
func (v value) under(n api.Node, t api.Type) value {
	n.At = root(v.tree).At
	return valueOf(t, n, v.tree)
}

// used is an expression used as a value.
func (v value) used() value {
	switch {
	case isFunction(v.Type):
		return value{Type: pointerTo(v.Type), tree: v.tree}
	case !v.isPlace:
		return v
	case isScalar(v.Type):
		return v.under(api.Node{Kind: api.KLoad}, v.Type)
	case v.Type == jmpBuf:
		return value{Type: pointerTo(jmpBuf), tree: v.tree}
	case isStruct(v.Type):
		return value{Type: v.Type, tree: v.tree}
	}
	elem, _ := element(v.Type)
	return v.under(api.Node{Kind: api.KField}, pointerTo(elem))
}

// as is a value of a whole-number type as one of another such type.
func (v value) as(t api.Type) value {
	if v.Type == t {
		return v
	}
	return v.under(api.Node{Kind: api.KConv}, t)
}

// promoted is a value of a whole-number type as it is in an operation.
func (v value) promoted() value { return v.as(promoted(v.Type)) }

// null is nothing as a pointer, of something that stands at a place.
func null(at int, t api.Type) value {
	return valueOf(t, api.Node{Kind: api.KNull, At: at})
}

// converted is a value as one of a type, for which a node at a place asks. To what is no scalar nothing is converted but what has that type.
func (v value) converted(t api.Type, at int) value {
	switch {
	case v.Type == t:
		return v
	case areWhole(v.Type, t):
		return v.as(t)
	case v.isNothing && isPointer(t):
		return null(root(v.tree).At, t)
	}
	want(arePointers(v.Type, t) && (v.Type == voidPointer || t == voidPointer), at, api.ErrType)
	return v.under(api.Node{Kind: api.KConv}, t)
}

// met is two values of whole-number types as ones of their common type.
func met(a, b value) (value, value) {
	t := common(a.Type, b.Type)
	return a.as(t), b.as(t)
}

// agreed is two values as ones of one type, numbers or pointers, for which a node at a place asks.
func agreed(a, b value, at int) (value, value) {
	switch {
	case areWhole(a.Type, b.Type):
		return met(a, b)
	case isPointer(a.Type) && (b.isNothing || b.Type == voidPointer):
		return a, b.converted(a.Type, at)
	}
	want(isPointer(b.Type), at, api.ErrType)
	return a.converted(b.Type, at), b
}
