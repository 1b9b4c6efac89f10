package value

import "catapult/api"

// Types that stand for all of their sort.
const (
	anyPlace    api.Type = "pv"
	anyFunction api.Type = "pf()v"
)

// Move is a pointer, so many units on, in a block of a size.
func Move(v api.Value, n, unit, size int) (api.Value, api.Errno) {
	if !isFrom(0, unit) || !isFrom(0, size) {
		return api.Value{}, api.ErrShape
	}
	if e := wrong(operand{v, anyPlace}); e != api.OK {
		return api.Value{}, e
	}
	if v.Kind == api.VNull || !hasRoom(v.Off, n, unit, size) {
		return api.Value{}, api.ErrWild
	}
	v.Off += n * unit
	return v, api.OK
}

// Apart is how many units two pointers into one block are apart.
func Apart(a, b api.Value, unit int) (api.Value, api.Errno) {
	if !isFrom(1, unit) {
		return api.Value{}, api.ErrShape
	}
	if e := wrong(operand{a, anyPlace}, operand{b, anyPlace}); e != api.OK {
		return api.Value{}, e
	}
	if !ofOneBlock(a, b) || (a.Off-b.Off)%unit != 0 {
		return api.Value{}, api.ErrWild
	}
	return number(signed, (a.Off-b.Off)/unit), api.OK
}

// Same tells whether two pointers are the same. The facts, if there are two, tell whether each lies within its block.
func Same(a, b api.Value, in ...bool) (bool, api.Errno) {
	e := wrong(operand{a, anyPlace}, operand{b, anyPlace})
	if e == api.ErrShape {
		e = wrong(operand{a, anyFunction}, operand{b, anyFunction})
	}
	if e != api.OK {
		return false, e
	}
	areOfTwo := a.Kind == api.VPtr && b.Kind == api.VPtr && a.Int != b.Int
	if areOfTwo && !areBothSo(in...) {
		return false, api.ErrWild // one may stand at its block's end, where the other block may begin
	}
	return a == b, api.OK
}

// Before tells whether a pointer stands ahead of another one in their block.
func Before(a, b api.Value) (bool, api.Errno) {
	if e := wrong(operand{a, anyPlace}, operand{b, anyPlace}); e != api.OK {
		return false, e
	}
	if !ofOneBlock(a, b) {
		return false, api.ErrWild
	}
	return a.Off < b.Off, api.OK
}

// isFrom tells whether a number of bytes is from the least one to MaxSize.
func isFrom(least, n int) bool { return least <= n && n <= api.MaxSize }

// hasRoom tells whether n units from a place on one is still from 0 to the size, however great n is.
func hasRoom(off, n, unit, size int) bool {
	if unit == 0 {
		return off <= size
	}
	// A number beyond the first two bounds goes too far; the product of one within them is none that an int can't hold.
	return n >= -(off/unit) && n <= size && n*unit <= size-off
}

// ofOneBlock tells whether two pointers are into one block.
func ofOneBlock(a, b api.Value) bool {
	return a.Kind == api.VPtr && b.Kind == api.VPtr && a.Int == b.Int
}

// areBothSo tells whether there are two facts, both so.
func areBothSo(l ...bool) bool { return len(l) == 2 && l[0] && l[1] }
