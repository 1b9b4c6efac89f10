package value_test

import (
	"fmt"
	"math"
	"strings"
	"testing"

	"catapult/api"
	"catapult/value"
)

// all is what a call answers, in a row.
func all(l ...any) string { return strings.TrimSuffix(fmt.Sprintln(l...), "\n") }

// same fails where an answer is another one than what is wanted (an empty list is as none).
func same(t *testing.T, what string, got, want any) {
	t.Helper()
	if g, w := fmt.Sprint(got), fmt.Sprint(want); g != w {
		t.Errorf("%s: %.300s, want %.300s", what, g, w)
	}
}

// at is the pointer to a place in a block.
func at(b, off int) api.Value { return api.Value{Kind: api.VPtr, Int: b, Off: off} }

// num is a number.
func num(n int) api.Value { return api.Value{Kind: api.VInt, Int: n} }

// fun is the pointer to a function.
func fun(n int) api.Value { return api.Value{Kind: api.VFunc, Int: n} }

// null is the pointer to nothing, none what is unset, and what stands beside an error.
var null, none = api.Value{Kind: api.VNull}, api.Value{}

// The least and the greatest numbers of i and u.
const (
	least    = -1 << 31
	greatest = 1<<31 - 1
	most     = 1<<32 - 1
)

// wholes are the integer types.
var wholes = []api.Type{"c", "s", "i", "u"}

// places are types of pointers to what is no function, right ones or not, as their form alone counts.
var places = []api.Type{"pv", "pi", "pc", "ppi", "ppf(i)i", "pSs;", "pa3:i", "pa0:i", "pa2:pf()v", "pj", "pSf;", api.Type(strings.Repeat("p", 100) + "f()v")}

// functions are types of pointers to functions.
var functions = []api.Type{"pf()v", "pf(i)i", "pf(pf()v,pi)pc", "pf(a2:i)v", "pf()f()v", "pf()pf()i"}

// strange are types of no scalar, and texts that are no types.
var strange = []api.Type{"", "v", "j", "a1:i", "a1:pi", "Ss;", "Si;", "f()i", "f()pi", "x", "p", "pp", "pf", "pf(", "pf()", "pf(i", "f", "ci", "ii", "i ", " i", "u\x00", "C", "I", "px", "pa:i", "pS;", "pi ", api.Type(strings.Repeat("p", api.MaxText) + "c")}

// wrong are values that are of no type.
var wrong = []api.Value{
	{Kind: api.VUnset, Int: 1}, {Kind: api.VUnset, Off: 1}, {Kind: api.VUnset, Int: -1},
	{Kind: api.VInt, Int: 1, Off: 1}, {Kind: api.VInt, Off: -1}, num(math.MaxInt), num(math.MinInt), num(1 << 32), num(least - 1),
	at(-1, 0), at(0, -1), at(-1, -1), at(math.MinInt, 0), at(0, math.MinInt),
	{Kind: api.VNull, Int: 1}, {Kind: api.VNull, Off: 1}, {Kind: api.VNull, Off: -1},
	{Kind: api.VFunc, Off: 1}, {Kind: api.VFunc, Int: 1, Off: -1},
	{Kind: 5}, {Kind: -1}, {Kind: 5, Int: 1, Off: 1}, {Kind: math.MaxInt}, {Kind: math.MinInt},
}

// The chapter's examples, and those of the whole that are of this layer.
func TestExamplesOfTheChapter(t *testing.T) {
	same(t, "the least by -1", all(value.Two(api.KDiv, "i", num(least), num(-1))), all(num(least), api.OK))
	same(t, "the upper half, shifted", all(value.Two(api.KShr, "u", num(1<<31), num(1))), all(num(1<<30), api.OK))
	same(t, "a great character", all(value.Conv("i", "c", num(200))), all(num(-56), api.OK))
	same(t, "two blocks, one at its end", all(value.Same(at(1, 8), at(2, 0), false, true)), all(false, api.ErrWild))
	same(t, "two blocks, the other one at its end", all(value.Same(at(1, 0), at(2, 8), true, false)), all(false, api.ErrWild))
	same(t, "two blocks, both within", all(value.Same(at(1, 0), at(2, 0), true, true)), all(false, api.OK))
}
