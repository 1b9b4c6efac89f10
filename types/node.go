package types

import "catapult/api"

// node is a type taken apart: its letter and its code; of an array how many members it has; of a struct its tag, which is its name; and the types that it is made of, what a function answers behind its parameters.
type node struct {
	letter byte
	code   api.Type
	count  int
	tag    string
	parts  []node
}

// inner is what a pointer points to, an array has, a function answers.
func (n node) inner() node { return n.parts[len(n.parts)-1] }

// params is a function's parameters.
func (n node) params() []node { return n.parts[:len(n.parts)-1] }

// isInt tells whether it is an integer type.
func (n node) isInt() bool {
	switch n.letter {
	case char, short, integer, unsigned:
		return true
	}
	return false
}

// isScalar tells whether it is a scalar.
func (n node) isScalar() bool { return n.isInt() || n.letter == pointer }

// isObject tells whether it is an object.
func (n node) isObject() bool { return n.letter != void && n.letter != function }

// promoted is what becomes of it where it is reckoned with.
func (n node) promoted() api.Type {
	if n.letter == char || n.letter == short {
		return intType
	}
	return n.code
}

// depth is how deep it is.
func (n node) depth() int {
	deepest := 0
	for _, p := range n.parts {
		deepest = max(deepest, p.depth())
	}
	return deepest + 1
}

// isWellMade tells whether all arrays and functions in it have the parts that they may have.
func (n node) isWellMade() bool {
	switch {
	case n.letter == array && !n.isFitArray(), n.letter == function && !n.isFitFunction():
		return false
	}
	for _, p := range n.parts {
		if !p.isWellMade() {
			return false
		}
	}
	return true
}

// isFitArray tells whether an array has objects, and as many as it may.
func (n node) isFitArray() bool {
	return 1 <= n.count && n.count <= api.MaxSize && n.inner().isObject()
}

// isFitFunction tells whether a function has the parameters and the answer that it may.
func (n node) isFitFunction() bool {
	for _, p := range n.params() {
		if !p.isScalar() {
			return false
		}
	}
	answer := n.inner()
	return len(n.params()) <= api.MaxParams && (answer.isScalar() || answer.letter == void)
}
