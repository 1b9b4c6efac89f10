package check

import (
	"slices"
	"strconv"

	"catapult/api"
	"catapult/types"
)

// made is the type that a node of a value makes of its parts' types; none, if it may not have such ones.
func (b *body) made(n api.Node, parts ...api.Type) api.Type {
	switch n.Kind {
	case api.KCall:
		return called(parts...)
	case api.KBuilt:
		return answered(b.built[n.Text].Type, parts...)
	}
	switch len(parts) {
	case 0:
		return b.leaf(n)
	case 1:
		return b.ofOne(n, parts[0])
	case 2:
		return b.ofTwo(n, parts[0], parts[1])
	case 3:
		if n.Kind == api.KCond && isScalar(parts[0]) && parts[1] == parts[2] {
			return parts[1]
		}
	}
	return ""
}

// when is a type, if something is so; else none.
func when(ok bool, t api.Type) api.Type {
	if !ok {
		return ""
	}
	return t
}

// called is what the call of a function makes of its address and its arguments.
func called(parts ...api.Type) api.Type {
	if len(parts) == 0 {
		return ""
	}
	return answered(target(parts[0]), parts[1:]...)
}

// answered is what a function answers; none, if these are not its parameters.
func answered(t api.Type, args ...api.Type) api.Type {
	answer, params, _ := types.Sign(t) // what is no function's type answers no type
	return when(slices.Equal(params, args), answer)
}

// leaf is the type of a node without parts.
func (b *body) leaf(n api.Node) api.Type {
	switch n.Kind {
	case api.KInt:
		return when(isInRange(n.Int, n.Type), n.Type)
	case api.KNull:
		return when(b.isPointer(n.Type), n.Type)
	case api.KFunc:
		x, ok := b.funcs[n.Text]
		return when(ok, pointerTo(x.Type))
	case api.KLocal:
		if b.hasSlot(n.Int) {
			return pointerTo(b.slots[n.Int].Type)
		}
	case api.KGlobal:
		x, ok := b.globals[n.Text]
		return when(ok, pointerTo(x.Type))
	case api.KString:
		if b.hasString(n.Int) {
			return pointerTo(textType(b.core.Strings[n.Int]))
		}
	}
	return ""
}

// isPointer tells whether a type is a right pointer, or that to a right type, which may be deeper by one.
func (b *body) isPointer(t api.Type) bool {
	return isPointer(t) && (b.extent(t).code == api.OK || b.extent(target(t)).code == api.OK)
}

// isReckoned tells whether a type is one in which numbers are reckoned.
func isReckoned(t api.Type) bool { return t == integer || t == unsigned }

// ofOne is the type of a node of one part.
func (b *body) ofOne(n api.Node, t api.Type) api.Type {
	switch n.Kind {
	case api.KLoad:
		return when(isScalar(target(t)), target(t))
	case api.KConv:
		return when(n.Type == void || areWhole(t, n.Type) || arePointers(t, n.Type) && b.isPointer(n.Type), n.Type)
	case api.KNeg, api.KCompl:
		return when(isReckoned(t), t)
	case api.KNot:
		return when(isScalar(t), integer)
	case api.KField:
		return b.field(n, target(t))
	case api.KIncr:
		return b.increment(n, target(t))
	}
	return ""
}

// field is the type of the address of a part of an object: of an array's first one, or of a struct's member.
func (b *body) field(n api.Node, t api.Type) api.Type {
	if elem, _ := element(t); elem != "" {
		return when(n.Int == 0, pointerTo(elem))
	}
	if !isStruct(t) {
		return ""
	}
	for _, x := range b.list(t) {
		if m := b.member(t, x.Name); m.at == n.Int && pointerTo(m.Type) == n.Type {
			return n.Type
		}
	}
	return ""
}

// increment is the type of ++ and -- at a place where a scalar of a type is.
func (b *body) increment(n api.Node, t api.Type) api.Type {
	by := 1
	if isPointer(t) {
		by = b.size(target(t))
	}
	isStep := by > 0 && (n.Int == by || n.Int == -by)
	return when(isScalar(t) && isStep && (n.Text == "pre" || n.Text == "post"), t)
}

// ofTwo is the type of a node of two parts.
func (b *body) ofTwo(n api.Node, x, y api.Type) api.Type {
	areSame, isOrdered := x == y, isReckoned(x) || b.size(target(x)) > 0
	switch n.Kind {
	case api.KStore:
		return when(isScalar(y) && x == pointerTo(y), y)
	case api.KCopy:
		return when(areSame && isStruct(target(x)), x)
	case api.KAdd, api.KSub, api.KMul, api.KDiv, api.KRem, api.KAnd, api.KOr, api.KXor:
		return when(areSame && isReckoned(x), x)
	case api.KShl, api.KShr:
		return when(isReckoned(x) && y == integer, x)
	case api.KLt, api.KLe:
		return when(areSame && isOrdered, integer)
	case api.KEq, api.KNe:
		return when(areSame && (isReckoned(x) || isPointer(x)), integer)
	case api.KPlus:
		return when(y == integer && b.isStride(n.Int, x), x)
	case api.KMinus:
		return when(areSame && b.isStride(n.Int, x), integer)
	case api.KBoth, api.KOne:
		return when(isScalar(x) && isScalar(y), integer)
	case api.KComma:
		return y
	case api.KUpdate:
		return when(b.isUpdate(n, target(x), y), target(x))
	}
	return ""
}

// isStride tells whether a number is the size of what a pointer points to.
func (b *body) isStride(n int, t api.Type) bool { return n > 0 && n == b.size(target(t)) }

// isUpdate tells whether a node may reckon with what is at a place where something of a type is, and a value of another type.
func (b *body) isUpdate(n api.Node, t, v api.Type) bool {
	if isPointer(t) {
		return n.Int == api.KPlus && v == integer && b.size(target(t)) > 0 && n.Text == strconv.Itoa(b.size(target(t)))
	}
	in := api.Type(n.Text)
	switch n.Int {
	case api.KAdd, api.KSub, api.KMul, api.KDiv, api.KRem, api.KAnd, api.KOr, api.KXor:
		return v == in && common(t, in) == in
	case api.KShl, api.KShr:
		return types.IsInt(t) && in == promoted(t) && v == integer
	}
	return false
}
