package value

import (
	"strings"

	"catapult/api"
	"catapult/types"
	"catapult/word"
)

// Sorts of types, each of which has values of its own kinds.
const (
	noSort    = iota // no scalar: no values
	numbers          // integer types
	places           // pointers to what is no function
	functions        // pointers to functions
)

// The integer types in which is reckoned.
const (
	signed   api.Type = "i"
	unsigned api.Type = "u"
)

// toFunction is what the codes of pointers to functions begin with.
const toFunction = "pf"

// wordBytes is how many bytes a word has.
const wordBytes = 4

// sortOf is the sort of a type.
func sortOf(t api.Type) int {
	switch {
	case width(t) > 0:
		return numbers
	case !types.IsScalar(t):
		return noSort
	case strings.HasPrefix(string(t), toFunction):
		return functions
	}
	return places
}

// width is how many bytes an integer type has; 0 of what is none.
func width(t api.Type) int {
	switch t {
	case "c":
		return 1
	case "s":
		return 2
	case signed, unsigned:
		return wordBytes
	}
	return 0
}

// isWide tells whether a type is one in which is reckoned.
func isWide(t api.Type) bool { return t == signed || t == unsigned }

// number is a number as an integer type has it.
func number(t api.Type, n int) api.Value {
	w := word.Of(n)
	if t == unsigned {
		return api.Value{Kind: api.VInt, Int: int(w)}
	}
	w, _ = word.Ext(w, 8*width(t)) // from 8 to 32 bits there is no error
	return api.Value{Kind: api.VInt, Int: word.Signed(w)}
}
