package tree

import (
	"catapult/api"
	"catapult/lex"
	"catapult/types"
)

// The least and the greatest number, and the first one that only unsigned ones reach.
const (
	minInt      = -128
	maxInt      = 1<<32 - 1
	minUnsigned = 1 << 31
)

// Types that are asked for here.
const (
	void     = api.Type("v")
	integer  = api.Type("i")
	unsigned = api.Type("u")
	jmpBuf   = api.Type("j")
)

// isRight tells whether a node is right by itself.
func isRight(n api.Node) bool {
	return isPlace(n.At) && hasRightInt(n) && hasRightText(n) && hasRightType(n)
}

// isPlace tells whether a place may be one in a text.
func isPlace(at int) bool { return 0 <= at && at <= api.MaxText }

// hasRightInt tells whether a node's number may be its own.
func hasRightInt(n api.Node) bool {
	switch n.Kind {
	case api.NInt:
		return minInt <= n.Int && n.Int <= maxInt
	case api.NDecl:
		return n.Int == 0 || n.Int == 1
	}
	return n.Int == 0
}

// hasRightText tells whether a node's text may be its own.
func hasRightText(n api.Node) bool {
	switch n.Kind {
	case api.NString:
		return len(n.Text) <= api.MaxStr
	case api.NName, api.NDot, api.NArrow, api.NDecl:
		return lex.IsName(n.Text)
	case api.NUnary, api.NPre, api.NPost, api.NBinary, api.NAssign:
		return isMark(n.Kind, n.Text)
	}
	return n.Text == ""
}

// hasRightType tells whether a node's type may be its own; the structs that it names are not known here.
func hasRightType(n api.Node) bool {
	switch n.Kind {
	case api.NInt:
		return n.Type == integer && n.Int < minUnsigned || n.Type == unsigned && n.Int >= 0
	case api.NCast, api.NSizeT, api.NDecl:
		e := types.Check(n.Type, nil)
		return (e == api.OK || e == api.ErrNone) && (n.Kind != api.NDecl || isVariable(n.Type))
	}
	return n.Type == ""
}

// isVariable tells whether a type may be that of a variable: neither void nor a function's.
func isVariable(t api.Type) bool { return t != void && !isFunction(t) }

// hasMembers tells whether a variable's type is an array's or a struct's.
func hasMembers(t api.Type) bool { return !types.IsScalar(t) && t != jmpBuf }

// isFunction tells whether a type is that of a function.
func isFunction(t api.Type) bool {
	_, _, e := types.Sign(t)
	return e == api.OK
}
