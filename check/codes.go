package check

import (
	"strings"

	"catapult/api"
	"catapult/types"
)

// Types that are asked for here.
const (
	void        = api.Type("v")
	char        = api.Type("c")
	integer     = api.Type("i")
	unsigned    = api.Type("u")
	jmpBuf      = api.Type("j")
	voidPointer = api.Type("pv")
	mainType    = api.Type("f()i")
)

// The letters with which the codes of other types begin.
const (
	pointer   = "p"
	array     = "a"
	structure = "S"
	function  = "f"
)

// begins tells whether a type's code begins with a letter.
func begins(t api.Type, letter string) bool { return strings.HasPrefix(string(t), letter) }

// isPointer tells whether it is a pointer.
func isPointer(t api.Type) bool { return begins(t, pointer) }

// isStruct tells whether it is a struct.
func isStruct(t api.Type) bool { return begins(t, structure) }

// isFunction tells whether it is a function.
func isFunction(t api.Type) bool { return begins(t, function) }

// isScalar tells whether it is a scalar.
func isScalar(t api.Type) bool { return isPointer(t) || types.IsInt(t) }

// areWhole tells whether both are whole-number types.
func areWhole(a, b api.Type) bool { return types.IsInt(a) && types.IsInt(b) }

// pointerTo is the pointer to a type.
func pointerTo(t api.Type) api.Type { return pointer + t }

// target is what a pointer points to; none of what is no pointer.
func target(t api.Type) api.Type {
	to, ok := strings.CutPrefix(string(t), pointer)
	if !ok {
		return ""
	}
	return api.Type(to)
}

// element is what an array has, and how many; none of what is no array.
func element(t api.Type) (api.Type, int) {
	if !begins(t, array) {
		return "", 0
	}
	e, count, _ := types.Elem(t)
	return e, count
}

// promoted is what becomes of a whole-number type in an operation.
func promoted(t api.Type) api.Type {
	p, _ := types.Promote(t) // of a whole-number type there is no error
	return p
}

// common is the type in which two whole-number types meet; none of other types.
func common(a, b api.Type) api.Type {
	t, _ := types.Common(a, b)
	return t
}

// arePointers tells whether both are pointers to functions, or both pointers to what is none.
func arePointers(a, b api.Type) bool {
	return isPointer(a) && isPointer(b) && isFunction(target(a)) == isFunction(target(b))
}
