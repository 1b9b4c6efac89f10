package block_test

import (
	"fmt"
	"slices"
	"strings"
	"testing"

	"catapult/api"
	"catapult/block"
)

// all is what a call answers, in a row.
func all(l ...any) string { return strings.TrimSuffix(fmt.Sprintln(l...), "\n") }

// same fails where an answer is another one than what is wanted (an empty list is as none).
func same(t *testing.T, what string, got, want any) {
	t.Helper()
	if g, w := fmt.Sprint(got), fmt.Sprint(want); g != w {
		t.Errorf("%s: %.600s, want %.600s", what, g, w)
	}
}

// at is the pointer to a place in a block.
func at(b, off int) api.Value { return api.Value{Kind: api.VPtr, Int: b, Off: off} }

// num is a number.
func num(n int) api.Value { return api.Value{Kind: api.VInt, Int: n} }

// fun is the pointer to a function.
func fun(n int) api.Value { return api.Value{Kind: api.VFunc, Int: n} }

// null is the pointer to nothing, none what is no value yet.
var null, none = api.Value{Kind: api.VNull}, api.Value{}

// digits is bytes that are numbers.
func digits(l ...int) []api.Byte {
	var b []api.Byte
	for _, n := range l {
		b = append(b, api.Byte{Kind: 1, N: n})
	}
	return b
}

// holes is bytes that are unset.
func holes(n int) []api.Byte { return make([]api.Byte, n) }

// pieces is the four pieces of a pointer.
func pieces(v api.Value) []api.Byte {
	return []api.Byte{{Kind: 2, N: 0, V: v}, {Kind: 2, N: 1, V: v}, {Kind: 2, N: 2, V: v}, {Kind: 2, N: 3, V: v}}
}

// parts is the 64 pieces of a context.
func parts(c int) []api.Byte {
	var b []api.Byte
	for i := range 64 {
		b = append(b, api.Byte{Kind: 3, N: i, C: c})
	}
	return b
}

// made is a store with blocks of these sizes, a string where it is below 0; none is changed.
func made(t *testing.T, sizes ...int) *block.Store {
	t.Helper()
	s := block.New()
	for i, n := range sizes {
		same(t, all("Make of", n), all(s.Make(max(n, -n), kindOf(n))), all(i+1, api.OK))
	}
	s.Changed()
	return s
}

// kindOf is the kind of a block of so many bytes, below 0 of a string.
func kindOf(n int) int {
	if n < 0 {
		return block.BlockText
	}
	return block.BlockPlain
}

// holds fails where a block has other bytes than these, one behind the other.
func holds(t *testing.T, s *block.Store, b int, want ...[]api.Byte) {
	t.Helper()
	got, e := s.Bytes(b)
	same(t, all("Bytes of", b), all(got, e), all(slices.Concat(want...), api.OK))
}

// does fails where a call answers otherwise, or the blocks changed by it are not these; where none is, all blocks stand as they were.
func does(t *testing.T, s *block.Store, what, want string, call func() string, changed ...int) {
	t.Helper()
	s.Changed()
	was := stateOf(s)
	same(t, what, call(), want)
	same(t, what+": Changed", s.Changed(), changed)
	if len(changed) == 0 {
		unchanged(t, what, s, was)
	}
}

// told is all that is told of a block.
type told struct {
	size, kind int
	lives      bool
	bytes      []api.Byte
}

// stateOf is all that is told of all blocks.
func stateOf(s *block.Store) []told {
	var l []told
	for b := 1; ; b++ {
		size, kind, e := s.Size(b)
		if e != api.OK {
			return l
		}
		bytes, _ := s.Bytes(b)
		l = append(l, told{size, kind, s.Lives(b), bytes})
	}
}

// unchanged fails where blocks do not stand as they were.
func unchanged(t *testing.T, what string, s *block.Store, was []told) {
	t.Helper()
	now := stateOf(s)
	same(t, what+": how many blocks", len(now), len(was))
	for i, x := range now {
		if y := was[i]; x.size != y.size || x.kind != y.kind || x.lives != y.lives || !slices.Equal(x.bytes, y.bytes) {
			t.Errorf("%s: the block %d: %.300v, want %.300v", what, i+1, x, y)
		}
	}
}

// The chapter's examples.
func TestExamplesOfTheChapter(t *testing.T) {
	s := block.New()
	same(t, "Make(8, 0)", all(s.Make(8, 0)), all(1, api.OK))
	same(t, "Store of 300", s.Store(at(1, 4), "i", num(300)), api.OK)
	same(t, "Load of a char", all(s.Load(at(1, 4), "c")), all(num(44), api.OK))
	same(t, "Load of what is unset", all(s.Load(at(1, 0), "i")), all(none, api.ErrHole))
	same(t, "Load beyond", all(s.Load(at(1, 6), "i")), all(none, api.ErrReach))
	same(t, "Load of a short", all(s.Load(at(1, 5), "s")), all(none, api.ErrSkew))

	same(t, "Store of a pointer", s.Store(at(1, 0), "pi", at(1, 4)), api.OK)
	same(t, "Load of it as int", all(s.Load(at(1, 0), "i")), all(none, api.ErrPieces))
	same(t, "Load of it as pc", all(s.Load(at(1, 0), "pc")), all(at(1, 4), api.OK))
	same(t, "Kill(1)", s.Kill(1), api.OK)
	same(t, "Same as nothing", all(s.Same(at(1, 0), null)), all(false, api.ErrDead))
}
