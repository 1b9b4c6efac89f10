package check

import (
	"strconv"

	"catapult/api"
)

// done is a part of a tree that is typed: an expression, or statements.
type done struct {
	value
	statements []api.Tree
}

// exprTyper types the expressions of a tree.
type exprTyper struct {
	*program
	located
	bindings []api.Binding // what each node stands for
	ahead    []int         // how many strings were ahead of each node that was come to
}

// over types a tree, node by node from its front: so parts come ahead of their whole, from the left.
func (x *exprTyper) over(typed func(at int, parts ...done) done) done {
	var l []done
	for at, n := range x.nodes {
		rest := len(l) - n.N
		x.ahead = append(x.ahead, len(x.strings))
		l = append(l[:rest], typed(at, l[rest:]...))
	}
	return l[0]
}

// isExpression tells whether a node is that of an expression.
func isExpression(n api.Node) bool { return n.Kind <= api.NSizeT }

// typed types an expression.
func (x *exprTyper) typed(at int, parts ...done) done {
	return done{value: x.expression(at, parts...)}
}

// expression types an expression whose parts are typed.
func (x *exprTyper) expression(at int, parts ...done) value {
	n := x.nodes[at]
	switch n.Kind {
	case api.NInt:
		v := valueOf(n.Type, api.Node{Kind: api.KInt, At: n.At, Int: n.Int})
		v.isNothing = n.Int == 0 && n.Type == integer
		return v
	case api.NString:
		return x.text(n)
	case api.NName:
		return x.name(at)
	case api.NPre:
		return x.increment(n, "pre", parts[0].value)
	case api.NPost:
		return x.increment(n, "post", parts[0].value)
	case api.NUnary:
		return x.unary(n, parts[0].value)
	case api.NBinary:
		return x.binary(n, parts[0].used(), parts[1].used())
	case api.NAssign:
		return x.assignment(n, parts[0].value, parts[1].used())
	case api.NCond:
		return x.choice(n, parts[0].used(), parts[1].used(), parts[2].used())
	case api.NComma:
		last := parts[1].used()
		return valueOf(last.Type, api.Node{Kind: api.KComma, At: n.At}, parts[0].used().tree, last.tree)
	case api.NCall:
		return x.call(at, parts...)
	case api.NCast:
		return x.cast(n, parts[0].used())
	case api.NSizeof, api.NSizeT:
		return x.sizeof(at, parts...)
	}
	return x.part(n, parts...)
}

// text types a string.
func (x *exprTyper) text(n api.Node) value {
	x.strings = append(x.strings, n.Text)
	return placeOf(textType(n.Text), api.Node{Kind: api.KString, At: n.At, Int: len(x.strings) - 1})
}

// textType is the type of a string.
func textType(s string) api.Type {
	return api.Type(array + strconv.Itoa(len(s)+1) + ":" + string(char))
}

// name types a name. What it stands for tells a slot's type; what the file has is known.
func (x *exprTyper) name(at int) value {
	n, b := x.nodes[at], x.bindings[at]
	known := x.known[n.Text]
	switch b.Kind {
	case api.NameSlot:
		return placeOf(b.Type, api.Node{Kind: api.KLocal, At: n.At, Int: b.Index})
	case api.NameGlobal:
		return placeOf(known.Type, api.Node{Kind: api.KGlobal, At: n.At, Text: n.Text})
	case api.NameFunc:
		want(known.hasBody, n.At, api.ErrName)
		v := valueOf(pointerTo(known.Type), api.Node{Kind: api.KFunc, At: n.At, Text: n.Text})
		v.Type = known.Type
		return v
	}
	want(x.isCalled(at), n.At, api.ErrName)
	return value{Type: b.Type}
}

// part types what is a part of an object: by its number, or by its name.
func (x *exprTyper) part(n api.Node, parts ...done) value {
	v := parts[0].value
	switch n.Kind {
	case api.NDot:
		want(v.isPlace && isStruct(v.Type), n.At, api.ErrType)
		return x.memberOf(n, v.Type, v.tree)
	case api.NArrow:
		v = v.used()
		want(isStruct(target(v.Type)), n.At, api.ErrType)
		return x.memberOf(n, target(v.Type), v.tree)
	}
	v = x.sum(api.Node{At: n.At, Text: plus}, v.used(), parts[1].used())
	want(isPointer(v.Type), n.At, api.ErrType)
	return value{Type: target(v.Type), tree: v.tree, isPlace: true}
}

// memberOf types a member of a struct whose address is known.
func (x *exprTyper) memberOf(n api.Node, t api.Type, address api.Tree) value {
	m := x.member(t, n.Text)
	want(m.Type != "", n.At, api.ErrName)
	return placeOf(m.Type, api.Node{Kind: api.KField, At: n.At, Int: m.at}, address)
}

// right gives up, unless a type for which a node asks is right.
func (x *exprTyper) right(t api.Type, at int) {
	e := x.extent(t).code
	want(e == api.OK, at, e)
}

// cast types a cast.
func (x *exprTyper) cast(n api.Node, v value) value {
	x.right(n.Type, n.At)
	conv := api.Node{Kind: api.KConv, At: n.At}
	switch {
	case n.Type == void:
		return valueOf(void, conv, v.tree)
	case v.Type != n.Type && areWhole(v.Type, n.Type):
		return valueOf(n.Type, conv, v.tree)
	case v.isNothing && isPointer(n.Type):
		p := null(n.At, n.Type)
		p.isNothing = n.Type == voidPointer
		return p
	case v.Type != n.Type && arePointers(v.Type, n.Type) && !isFunction(target(n.Type)):
		return valueOf(n.Type, conv, v.tree)
	}
	want(v.Type == n.Type, n.At, api.ErrType)
	return value{Type: v.Type, tree: v.tree}
}

// sizeof types the size of a type, or of an expression. What stands in that is never come to, so its strings are none of the program's.
func (x *exprTyper) sizeof(at int, parts ...done) value {
	n := x.nodes[at]
	t := n.Type
	for _, v := range parts {
		t = v.Type
	}
	x.strings = x.strings[:x.ahead[x.spots[at].from]]
	x.right(t, n.At)
	bytes := x.size(t)
	want(bytes > 0, n.At, api.ErrType)
	return valueOf(unsigned, api.Node{Kind: api.KInt, At: n.At, Int: bytes})
}
