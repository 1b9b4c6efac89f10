package check

import (
	"catapult/api"
	"catapult/types"
)

// setjmp is the built-in function that may not be called everywhere.
const setjmp = "setjmp"

// isCalled tells whether a node is what a call calls.
func (x *exprTyper) isCalled(at int) bool {
	s := x.spots[at]
	return x.kind(s.whole) == api.NCall && s.rank == 0
}

// call types a call.
func (x *exprTyper) call(at int, parts ...done) value {
	n, callee := x.nodes[at], parts[0].used()
	answer, params, e := types.Sign(target(callee.Type))
	want(e == api.OK && len(params) == len(parts)-1, n.At, api.ErrType)
	var args []api.Tree
	for i, t := range params {
		args = append(args, parts[i+1].used().converted(t, n.At).tree)
	}
	if len(callee.tree) > 0 {
		return valueOf(answer, api.Node{Kind: api.KCall, At: n.At}, append([]api.Tree{callee.tree}, args...)...)
	}
	name := x.nodes[x.spots[at].from].Text
	want(name != setjmp || x.maySet(at), n.At, api.ErrSetjmp)
	return valueOf(answer, api.Node{Kind: api.KBuilt, At: n.At, Text: name}, args...)
}

// maySet tells whether setjmp may be called by a node: where its answer goes nowhere, or decides alone what is done.
func (x *exprTyper) maySet(at int) bool {
	if x.isStatement(at) || x.isCondition(at) {
		return true
	}
	whole := x.spots[at].whole
	if whole == nowhere {
		return false
	}
	switch n := x.nodes[whole]; n.Kind {
	case api.NCast:
		return n.Type == void && x.isStatement(whole)
	case api.NUnary:
		return n.Text == not && x.isCondition(whole)
	case api.NBinary:
		return isComparison(n.Text) && x.isCondition(whole) && x.isConstant(x.sibling(at))
	}
	return false
}

// isStatement tells whether an expression is the whole of a statement, or of the step of a loop.
func (x *exprTyper) isStatement(at int) bool {
	switch s := x.spots[at]; x.kind(s.whole) {
	case api.NExpr:
		return true
	case api.NFor:
		return s.rank == 2
	}
	return false
}

// isCondition tells whether an expression is the whole of a condition.
func (x *exprTyper) isCondition(at int) bool {
	switch s := x.spots[at]; x.kind(s.whole) {
	case api.NIf, api.NWhile, api.NDo, api.NSwitch:
		return true
	case api.NFor:
		return s.rank == 1
	}
	return false
}

// isComparison tells whether a mark is that of a comparison.
func isComparison(mark string) bool {
	switch mark {
	case "<", ">", "<=", ">=", "==", "!=":
		return true
	}
	return false
}

// isConstant tells whether an expression is constant.
func (x *exprTyper) isConstant(at int) bool {
	_, ok := x.constant(x.sub(at), integer)
	return ok
}
