package tree

import "catapult/api"

// The levels of expressions, from the loosest.
const (
	anyLevel = iota // the comma's
	assignLevel
	condLevel
	oneLevel  // ||
	bothLevel // &&
	orLevel
	xorLevel
	andLevel
	equalLevel
	orderLevel
	shiftLevel
	sumLevel
	productLevel
	castLevel
	unaryLevel
	tightLevel // calls, indices, members, ++ and -- behind; names, numbers, texts
)

// level is that of an expression.
func level(n api.Node) int {
	switch n.Kind {
	case api.NComma:
		return anyLevel
	case api.NAssign:
		return assignLevel
	case api.NCond:
		return condLevel
	case api.NBinary:
		return binaryLevel(n.Text)
	case api.NCast:
		return castLevel
	case api.NUnary, api.NPre, api.NSizeof, api.NSizeT:
		return unaryLevel
	}
	return tightLevel
}

// binaryLevel is that of a mark between two parts; anyLevel, if it is none.
func binaryLevel(mark string) int {
	switch mark {
	case "||":
		return oneLevel
	case "&&":
		return bothLevel
	case "|":
		return orLevel
	case "^":
		return xorLevel
	case "&":
		return andLevel
	case "==", "!=":
		return equalLevel
	case "<", ">", "<=", ">=":
		return orderLevel
	case "<<", ">>":
		return shiftLevel
	case "+", "-":
		return sumLevel
	case "*", "/", "%":
		return productLevel
	}
	return anyLevel
}
