package tree

import (
	"slices"

	"catapult/api"
)

// What may stand as a part of a node.
const (
	expression = iota
	perhaps    // an expression, or nothing
	statement  // no declaration
	member     // of a block: a statement or a declaration
	first      // of a for: an expression's statement, a declaration, or nothing
)

// isExpression tells whether a kind of nodes is that of an expression.
func isExpression(kind int) bool { return api.NInt <= kind && kind <= api.NSizeT }

// isStatement tells whether a kind of nodes is that of a statement that is no declaration.
func isStatement(kind int) bool {
	return api.NExpr <= kind && kind <= api.NReturn && kind != api.NDecl
}

// may tells whether a node of a kind may stand as such a part.
func may(kind, part int) bool {
	switch part {
	case expression:
		return isExpression(kind)
	case perhaps:
		return isExpression(kind) || kind == api.NNone
	case statement:
		return isStatement(kind)
	case member:
		return isStatement(kind) || kind == api.NDecl
	}
	return kind == api.NExpr || kind == api.NDecl || kind == api.NNone
}

// partOf is what a part of a node of a kind may be, by its number.
func partOf(kind, i int) int {
	switch kind {
	case api.NBlock:
		return member
	case api.NDefault:
		return statement
	case api.NIf, api.NWhile, api.NSwitch, api.NCase:
		return of(i, expression, statement)
	case api.NDo:
		return of(i, statement, expression)
	case api.NFor:
		return of(i, first, perhaps, perhaps, statement)
	}
	return expression
}

// of is the part of that number; the last one, if they are fewer.
func of(i int, parts ...int) int { return parts[min(i, len(parts)-1)] }

// hasParts tells whether a node of a kind may have so many parts.
func hasParts(kind, n int) bool {
	switch kind {
	case api.NInt, api.NString, api.NName, api.NSizeT, api.NBreak, api.NCont, api.NNone:
		return n == 0
	case api.NDecl, api.NReturn:
		return n == 0 || n == 1
	case api.NUnary, api.NPre, api.NPost, api.NDot, api.NArrow, api.NCast, api.NSizeof, api.NExpr, api.NDefault:
		return n == 1
	case api.NBinary, api.NAssign, api.NComma, api.NIndex, api.NWhile, api.NDo, api.NSwitch, api.NCase:
		return n == 2
	case api.NIf:
		return n == 2 || n == 3
	case api.NCond:
		return n == 3
	case api.NFor:
		return n == 4
	case api.NCall:
		return 1 <= n && n <= 1+api.MaxParams
	case api.NBlock:
		return 0 <= n
	}
	return false
}

// isMark tells whether a text is one of the marks of a kind of expressions.
func isMark(kind int, s string) bool {
	switch kind {
	case api.NUnary:
		return slices.Contains([]string{"-", "~", "!", "&", "*"}, s)
	case api.NPre, api.NPost:
		return s == "++" || s == "--"
	case api.NAssign:
		return slices.Contains([]string{"=", "*=", "/=", "%=", "+=", "-=", "<<=", ">>=", "&=", "^=", "|="}, s)
	}
	return binaryLevel(s) != anyLevel
}
