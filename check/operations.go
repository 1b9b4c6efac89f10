package check

import (
	"strconv"
	"strings"

	"catapult/api"
	"catapult/types"
)

// Marks that are asked for here.
const (
	gives   = "="
	plus    = "+"
	minus   = "-"
	not     = "!"
	address = "&"
	content = "*"
)

// kindOf is the kind of core nodes of a binary operation.
func kindOf(mark string) int {
	switch mark {
	case "*":
		return api.KMul
	case "/":
		return api.KDiv
	case "%":
		return api.KRem
	case plus:
		return api.KAdd
	case minus:
		return api.KSub
	case "&":
		return api.KAnd
	case "|":
		return api.KOr
	case "^":
		return api.KXor
	case "<<":
		return api.KShl
	case ">>":
		return api.KShr
	case "<", ">=":
		return api.KLt
	case "<=", ">":
		return api.KLe
	case "==":
		return api.KEq
	case "!=":
		return api.KNe
	case "&&":
		return api.KBoth
	}
	return api.KOne
}

// unary types an operation on one expression.
func (x *exprTyper) unary(n api.Node, v value) value {
	switch n.Text {
	case address:
		want(v.isPlace || isFunction(v.Type), n.At, api.ErrLvalue)
		return value{Type: pointerTo(v.Type), tree: v.tree}
	case content:
		v = v.used()
		t := target(v.Type)
		want(t != "" && t != void, n.At, api.ErrType)
		return value{Type: t, tree: v.tree, isPlace: !isFunction(t)}
	case not:
		v = v.used()
		want(isScalar(v.Type), n.At, api.ErrType)
		return valueOf(integer, api.Node{Kind: api.KNot, At: n.At}, v.tree)
	}
	v = v.used()
	want(types.IsInt(v.Type), n.At, api.ErrType)
	kind := api.KNeg
	if n.Text != minus {
		kind = api.KCompl
	}
	v = v.promoted()
	return valueOf(v.Type, api.Node{Kind: kind, At: n.At}, v.tree)
}

// stride is the size of what a pointer points to, for which a node at a place asks.
func (x *exprTyper) stride(t api.Type, at int) int {
	bytes := x.size(target(t))
	want(bytes > 0, at, api.ErrType)
	return bytes
}

// increment types ++ and --.
func (x *exprTyper) increment(n api.Node, when string, v value) value {
	want(v.isPlace && isScalar(v.Type), n.At, api.ErrLvalue)
	by := 1
	if isPointer(v.Type) {
		by = x.stride(v.Type, n.At)
	}
	if n.Text == "--" {
		by = -by
	}
	return valueOf(v.Type, api.Node{Kind: api.KIncr, At: n.At, Int: by, Text: when}, v.tree)
}

// binary types an operation on two values.
func (x *exprTyper) binary(n api.Node, a, b value) value {
	op := api.Node{Kind: kindOf(n.Text), At: n.At}
	switch n.Text {
	case plus, minus:
		return x.sum(n, a, b)
	case "<<", ">>":
		want(areWhole(a.Type, b.Type), n.At, api.ErrType)
		a, b = a.promoted(), b.as(integer)
		return valueOf(a.Type, op, a.tree, b.tree)
	case "<", "<=":
		return x.order(n, a, b)
	case ">", ">=":
		return valueOf(integer, api.Node{Kind: api.KNot, At: n.At}, x.order(n, a, b).tree)
	case "==", "!=":
		a, b = agreed(a, b, n.At)
		return valueOf(integer, op, a.tree, b.tree)
	case "&&", "||":
		want(isScalar(a.Type) && isScalar(b.Type), n.At, api.ErrType)
		return valueOf(integer, op, a.tree, b.tree)
	}
	return arithmetic(n, a, b)
}

// arithmetic types an operation on two numbers in their common type.
func arithmetic(n api.Node, a, b value) value {
	want(areWhole(a.Type, b.Type), n.At, api.ErrType)
	a, b = met(a, b)
	return valueOf(a.Type, api.Node{Kind: kindOf(n.Text), At: n.At}, a.tree, b.tree)
}

// sum types + and -.
func (x *exprTyper) sum(n api.Node, a, b value) value {
	if n.Text == plus && isPointer(b.Type) {
		a, b = b, a
	}
	switch {
	case !isPointer(a.Type):
		return arithmetic(n, a, b)
	case n.Text == minus && a.Type == b.Type:
		return valueOf(integer, api.Node{Kind: api.KMinus, At: n.At, Int: x.stride(a.Type, n.At)}, a.tree, b.tree)
	}
	want(types.IsInt(b.Type), n.At, api.ErrType)
	by := x.stride(a.Type, n.At)
	return valueOf(a.Type, api.Node{Kind: api.KPlus, At: n.At, Int: by}, a.tree, steps(n.Text, b).tree)
}

// steps is a number as that of the steps by which + or - moves a pointer.
func steps(mark string, v value) value {
	v = v.as(integer)
	if mark == minus {
		v = v.under(api.Node{Kind: api.KNeg}, integer)
	}
	return v
}

// order types < and <=, and what > and >= are the contrary of.
func (x *exprTyper) order(n api.Node, a, b value) value {
	if isPointer(a.Type) && a.Type == b.Type {
		x.stride(a.Type, n.At)
	} else {
		want(areWhole(a.Type, b.Type), n.At, api.ErrType)
		a, b = met(a, b)
	}
	return valueOf(integer, api.Node{Kind: kindOf(n.Text), At: n.At}, a.tree, b.tree)
}

// choice types a conditional.
func (x *exprTyper) choice(n api.Node, condition, a, b value) value {
	want(isScalar(condition.Type), n.At, api.ErrType)
	isAlike := a.Type == b.Type && (isStruct(a.Type) || a.Type == void)
	if !isAlike {
		a, b = agreed(a, b, n.At)
	}
	return valueOf(a.Type, api.Node{Kind: api.KCond, At: n.At}, condition.tree, a.tree, b.tree)
}

// assignment types an assignment to what may be a place.
func (x *exprTyper) assignment(n api.Node, to, v value) value {
	isCopy := n.Text == gives && isStruct(to.Type)
	want(to.isPlace && (isCopy || isScalar(to.Type)), n.At, api.ErrLvalue)
	switch {
	case isCopy:
		return copied(n.At, to, v)
	case n.Text == gives:
		v = v.converted(to.Type, n.At)
		return valueOf(to.Type, api.Node{Kind: api.KStore, At: n.At}, to.tree, v.tree)
	}
	return x.update(n, to, v)
}

// copied is a struct that is copied to a place.
func copied(at int, to, v value) value {
	want(v.Type == to.Type, at, api.ErrType)
	return valueOf(to.Type, api.Node{Kind: api.KCopy, At: at}, to.tree, v.tree)
}

// update types an assignment that reckons with what stands at the place.
func (x *exprTyper) update(n api.Node, to, v value) value {
	mark := strings.TrimSuffix(n.Text, gives)
	op := api.Node{Kind: api.KUpdate, At: n.At, Int: kindOf(mark)}
	want(types.IsInt(v.Type), n.At, api.ErrType)
	switch {
	case isPointer(to.Type):
		want(mark == plus || mark == minus, n.At, api.ErrType)
		op.Int, op.Text = api.KPlus, strconv.Itoa(x.stride(to.Type, n.At))
		v = steps(mark, v)
	case mark == "<<" || mark == ">>":
		op.Text = string(promoted(to.Type))
		v = v.as(integer)
	default:
		t := common(to.Type, v.Type)
		op.Text = string(t)
		v = v.as(t)
	}
	return valueOf(to.Type, op, to.tree, v.tree)
}
