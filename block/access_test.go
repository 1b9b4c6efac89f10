package block_test

import (
	"math"
	"slices"
	"strings"
	"testing"

	"catapult/api"
	"catapult/block"
)

// pointers are types of pointers, right ones or not, as their form alone counts.
var pointers = []api.Type{"pv", "pi", "pc", "ppi", "pf(i)i", "pSs;", "pa3:i", "pa0:i", "pj", "pf(a2:i)v", api.Type(strings.Repeat("p", 100) + "c")}

// strange are types of no scalar, and texts that are no types.
var strange = []api.Type{"", "v", "j", "a1:i", "Ss;", "f()i", "x", "p", "pp", "ci", "i ", " i", "C", "px", "pa:i", "pS;", api.Type(strings.Repeat("p", api.MaxText) + "c")}

// wrong are pointers that reach no byte of blocks 1 (8 bytes, living) and 2 (8 bytes, dead), and why.
var wrong = map[api.Value]api.Errno{
	none: api.ErrReach, null: api.ErrReach, fun(1): api.ErrReach, num(1): api.ErrReach, {Kind: 5, Int: 1}: api.ErrReach, {Kind: -1, Int: 1}: api.ErrReach,
	at(0, 0): api.ErrReach, at(-1, 0): api.ErrReach, at(3, 0): api.ErrReach, at(math.MaxInt, 0): api.ErrReach, at(math.MinInt, 0): api.ErrReach,
	at(1, -1): api.ErrReach, at(1, -4): api.ErrReach, at(1, math.MinInt): api.ErrReach, at(1, 8): api.ErrReach, at(1, 9): api.ErrReach, at(1, math.MaxInt): api.ErrReach,
	at(2, 0): api.ErrDead, at(2, 1): api.ErrDead, at(2, 9): api.ErrDead, at(2, math.MaxInt): api.ErrDead, at(2, -1): api.ErrReach, at(2, math.MinInt): api.ErrReach,
}

// twoBlocks is a store of the block 1, of 8 bytes that are set, and the block 2, which does not live.
func twoBlocks(t *testing.T) *block.Store {
	t.Helper()
	s := made(t, 8, 8)
	s.Put(at(1, 0), "abcdefgh")
	s.Put(at(2, 0), "abcdefgh")
	s.Kill(2)
	return s
}

// 14.2: a load of an integer type, as its bits have it.
func TestLoadNumbers(t *testing.T) {
	s := made(t, 8, -8)
	for _, b := range []int{1, 2} {
		s.Put(at(b, 0), "\x80\xff\xfe\x81\x7f\x00\x00\x00")
		for _, x := range []struct {
			off  int
			t    api.Type
			want int
		}{
			{0, "c", -128}, {1, "c", -1}, {2, "c", -2}, {3, "c", -127}, {4, "c", 127}, {5, "c", 0}, {7, "c", 0},
			{0, "s", -128}, {2, "s", -32258}, {4, "s", 127}, {6, "s", 0},
			{0, "i", -2113994880}, {4, "i", 127}, {0, "u", 2180972416}, {4, "u", 127},
		} {
			same(t, all("Load", b, x.off, x.t), all(s.Load(at(b, x.off), x.t)), all(num(x.want), api.OK))
		}
		for _, x := range []struct {
			off int
			t   api.Type
		}{{1, "s"}, {3, "s"}, {5, "s"}, {1, "i"}, {2, "i"}, {3, "i"}, {1, "u"}, {2, "u"}, {3, "pi"}, {2, "pv"}, {1, "pf()v"}} {
			same(t, all("Load", b, x.off, x.t), all(s.Load(at(b, x.off), x.t)), all(none, api.ErrSkew))
		}
		for off, t2 := range map[int]api.Type{7: "s", 6: "i", 5: "u", 8: "c"} {
			same(t, all("Load beyond", b, off, t2), all(s.Load(at(b, off), t2)), all(none, api.ErrReach))
		}
	}
}

// 14.2: a load of pointers, whole, and of what is none.
func TestLoadPointers(t *testing.T) {
	s := made(t, 16)
	values := []api.Value{null, fun(0), fun(7), fun(-7), at(1, 0), at(1, 8), at(5, -3), at(0, math.MaxInt), at(math.MinInt, math.MinInt)}
	for _, v := range values {
		for _, x := range pointers {
			same(t, all("Store", x, v), s.Store(at(1, 4), x, v), api.OK)
			holds(t, s, 1, holes(4), pieces(v), holes(8))
			for _, y := range pointers {
				same(t, all("Load", y, v), all(s.Load(at(1, 4), y)), all(v, api.OK))
			}
			for off, y := range map[int]api.Type{4: "c", 5: "c", 6: "s", 7: "c"} {
				same(t, all("Load of a piece", y, off), all(s.Load(at(1, off), y)), all(none, api.ErrPieces))
			}
			same(t, "Load of it as a number", all(s.Load(at(1, 4), "i")), all(none, api.ErrPieces))
			same(t, "Load of it as unsigned", all(s.Load(at(1, 4), "u")), all(none, api.ErrPieces))
			same(t, "Load of a hole", all(s.Load(at(1, 0), "pi")), all(none, api.ErrHole))
		}
	}
	s.Put(at(1, 0), "\x00\x00\x00\x00")
	same(t, "Load of numbers as a pointer", all(s.Load(at(1, 0), "pi")), all(none, api.ErrPieces))
	s.Store(at(1, 0), "s", num(0))
	same(t, "numbers as a pointer", all(s.Load(at(1, 0), "pi")), all(none, api.ErrPieces))
}

// 14.2: pieces that stand in another order, of other pointers, of contexts, or of numbers, are no pointer.
func TestLoadOfMixedPieces(t *testing.T) {
	for k := range 4 {
		for what, spoil := range map[string]func(s *block.Store, p api.Value) api.Errno{
			"a number":                func(s *block.Store, p api.Value) api.Errno { return s.Put(p, "a") },
			"the same of another one": func(s *block.Store, p api.Value) api.Errno { return s.Copy(p, at(2, k), 1) },
			"another of the same":     func(s *block.Store, p api.Value) api.Errno { return s.Copy(p, at(2, 4+(k+1)%4), 1) },
			"of a context":            func(s *block.Store, p api.Value) api.Errno { return s.Copy(p, at(2, 8+k), 1) },
		} {
			s := made(t, 8, 80)
			s.Store(at(1, 4), "pc", at(1, 4))
			s.Store(at(2, 0), "pc", at(1, 5))
			s.Store(at(2, 4), "pc", at(1, 4))
			s.SetContext(at(2, 8), 0)
			same(t, what, spoil(s, at(1, 4+k)), api.OK)
			same(t, all("Load of a pointer with", what, k), all(s.Load(at(1, 4), "pc")), all(none, api.ErrPieces))
			same(t, all("Load of it as a number", k), all(s.Load(at(1, 4), "i")), all(none, api.ErrPieces))
			same(t, "Copy of the right one", s.Copy(at(1, 4+k), at(2, 4+k), 1), api.OK)
			same(t, all("Load of it, made whole", k), all(s.Load(at(1, 4), "pc")), all(at(1, 4), api.OK))
			same(t, "Unset", s.Unset(at(1, 4+k), 1), api.OK)
			same(t, all("Load of it with a hole", k), all(s.Load(at(1, 4), "pc")), all(none, api.ErrHole))
			same(t, all("Load of it as a number", k), all(s.Load(at(1, 4), "u")), all(none, api.ErrHole))
		}
	}
}

// 14.2: a load of pieces of a context, and of a hole beside any of them.
func TestLoadOfContexts(t *testing.T) {
	s := made(t, 68)
	s.SetContext(at(1, 0), 0)
	for _, x := range append([]api.Type{"c", "s", "i", "u"}, pointers...) {
		same(t, all("Load of", x), all(s.Load(at(1, 8), x)), all(none, api.ErrPieces))
	}
	s.Unset(at(1, 3), 1)
	for _, x := range append([]api.Type{"i", "u"}, pointers...) {
		same(t, all("Load of", x, "with a hole"), all(s.Load(at(1, 0), x)), all(none, api.ErrHole))
	}
	same(t, "ahead of the hole", all(s.Load(at(1, 0), "s")), all(none, api.ErrPieces))
	same(t, "with the hole", all(s.Load(at(1, 2), "s")), all(none, api.ErrHole))
	same(t, "the hole", all(s.Load(at(1, 3), "c")), all(none, api.ErrHole))
	s.Put(at(1, 64), "abc")
	same(t, "numbers and a hole", all(s.Load(at(1, 64), "i")), all(none, api.ErrHole))
}

// 14.2, 14.3: the order of what is wrong: the type, the value, the pointer, the skew, the string, the bytes.
func TestOrderOfErrors(t *testing.T) {
	s := twoBlocks(t)
	for p, e := range wrong {
		for _, x := range strange {
			does(t, s, all("Load of", p), all(none, api.ErrShape), func() string { return all(s.Load(p, x)) })
			does(t, s, all("Store to", p), all(api.ErrShape), func() string { return all(s.Store(p, x, num(0))) })
			does(t, s, all("Store to", p), all(api.ErrShape), func() string { return all(s.Store(p, x, null)) })
		}
		for _, x := range []api.Type{"c", "s", "i", "u", "pi"} {
			v := num(1)
			if x == "pi" {
				v = null
			}
			does(t, s, all("Load of", x, p), all(none, e), func() string { return all(s.Load(p, x)) })
			does(t, s, all("Store of", x, p), all(e), func() string { return all(s.Store(p, x, v)) })
			does(t, s, all("Store of what does not fit", x, p), all(api.ErrShape), func() string { return all(s.Store(p, x, none)) })
		}
	}
	for _, x := range strange {
		does(t, s, all("Load as", x), all(none, api.ErrShape), func() string { return all(s.Load(at(1, 0), x)) })
		for _, v := range []api.Value{num(0), null, fun(0), at(1, 0), none} {
			does(t, s, all("Store as", x), all(api.ErrShape), func() string { return all(s.Store(at(1, 0), x, v)) })
		}
	}
	does(t, s, "beyond, and skew", all(none, api.ErrReach), func() string { return all(s.Load(at(1, 7), "i")) })
	does(t, s, "beyond, and skew", all(api.ErrReach), func() string { return all(s.Store(at(1, 5), "i", num(1))) })

	f := made(t, -8)
	does(t, f, "a hole, and skew", all(none, api.ErrSkew), func() string { return all(f.Load(at(1, 1), "i")) })
	does(t, f, "a string, and skew", all(api.ErrSkew), func() string { return all(f.Store(at(1, 1), "s", num(1))) })
	does(t, f, "a string, and beyond", all(api.ErrReach), func() string { return all(f.Store(at(1, 8), "c", num(1))) })
	for _, x := range []api.Type{"c", "s", "i", "u"} {
		does(t, f, all("a string", x), all(api.ErrFixed), func() string { return all(f.Store(at(1, 4), x, num(1))) })
	}
	does(t, f, "a string", all(api.ErrFixed), func() string { return all(f.Store(at(1, 4), "pi", null)) })
}

// 14.3: the numbers of an integer type, and no others, are stored, the lowest byte first.
func TestStoreNumbers(t *testing.T) {
	bounds := map[api.Type][2]int{"c": {-128, 127}, "s": {-32768, 32767}, "i": {-1 << 31, 1<<31 - 1}, "u": {0, 1<<32 - 1}}
	widths := map[api.Type]int{"c": 1, "s": 2, "i": 4, "u": 4}
	for x, l := range bounds {
		for _, n := range []int{l[0], l[0] + 1, -1, 0, 1, 44, 0x12, 0x1234, 0x12345678, l[1] - 1, l[1], l[0] - 1, l[1] + 1, -129, 128, 255, 256, 65535, 1 << 31, 1 << 32, 1<<32 + 1, -1 << 32, math.MaxInt, math.MinInt} {
			s := made(t, 8)
			if n < l[0] || n > l[1] {
				does(t, s, all("Store", x, n), all(api.ErrShape), func() string { return all(s.Store(at(1, 4), x, num(n))) })
				continue
			}
			does(t, s, all("Store", x, n), all(api.OK), func() string { return all(s.Store(at(1, 4), x, num(n))) }, 1)
			b := digits(n&255, n>>8&255, n>>16&255, n>>24&255)[:widths[x]]
			holds(t, s, 1, holes(4), b, holes(4-len(b)))
			same(t, all("Load", x, n), all(s.Load(at(1, 4), x)), all(num(n), api.OK))
		}
	}
}

// 14.3: which values fit a type: of the kind, and with nothing that the kind has not.
func TestStoreWhatFits(t *testing.T) {
	s := made(t, 8)
	for _, x := range []api.Type{"c", "s", "i", "u"} {
		for _, v := range []api.Value{none, null, at(1, 0), fun(0), {Kind: api.VInt, Int: 1, Off: 1}, {Kind: api.VInt, Off: -1}, {Kind: 5}, {Kind: -1}, {Kind: api.VUnset, Int: 1}} {
			does(t, s, all("Store", x, v), all(api.ErrShape), func() string { return all(s.Store(at(1, 0), x, v)) })
		}
	}
	for _, x := range pointers {
		for _, v := range []api.Value{none, num(0), num(1), {Kind: api.VNull, Int: 1}, {Kind: api.VNull, Off: 1}, {Kind: api.VFunc, Int: 1, Off: 1}, {Kind: api.VFunc, Off: -1}, {Kind: 5}, {Kind: -1}, {Kind: 5, Int: 1, Off: 1}} {
			does(t, s, all("Store", x, v), all(api.ErrShape), func() string { return all(s.Store(at(1, 0), x, v)) })
		}
		for _, v := range []api.Value{null, fun(3), at(9, -9)} {
			does(t, s, all("Store", x, v), all(api.OK), func() string { return all(s.Store(at(1, 0), x, v)) }, 1)
		}
	}
}

// 14.3: Copy: what is wrong, in its order.
func TestCopyRefused(t *testing.T) {
	s := twoBlocks(t)
	s.Make(8, 1)
	s.Put(at(3, 0), "ABCDEFGH")
	for _, n := range []int{-1, math.MinInt} {
		does(t, s, "a length below 0", all(api.ErrRange), func() string { return all(s.Copy(null, none, n)) })
	}
	for p, e := range wrong {
		if p == at(3, 0) {
			continue
		}
		does(t, s, all("to", p), all(e), func() string { return all(s.Copy(p, at(1, 0), 1)) })
		does(t, s, all("from", p), all(e), func() string { return all(s.Copy(at(1, 0), p, 1)) })
		does(t, s, all("from, to a string", p), all(e), func() string { return all(s.Copy(at(3, 0), p, 1)) })
	}
	for _, n := range []int{9, 1 << 40, math.MaxInt} {
		does(t, s, all("too long", n), all(api.ErrReach), func() string { return all(s.Copy(at(1, 0), at(3, 0), n)) })
		does(t, s, all("too long from a dead one", n), all(api.ErrReach), func() string { return all(s.Copy(at(1, 0), at(2, 0), n)) })
		does(t, s, all("too long to a dead one", n), all(api.ErrDead), func() string { return all(s.Copy(at(2, 0), at(1, 0), n)) })
	}
	does(t, s, "both wrong", all(api.ErrDead), func() string { return all(s.Copy(at(2, 0), null, 1)) })
	does(t, s, "both wrong", all(api.ErrReach), func() string { return all(s.Copy(null, at(2, 0), 1)) })
	does(t, s, "to a string", all(api.ErrFixed), func() string { return all(s.Copy(at(3, 0), at(1, 0), 8)) })
	does(t, s, "no byte, to a string", all(api.ErrFixed), func() string { return all(s.Copy(at(3, 8), at(1, 8), 0)) })
	does(t, s, "a string over itself", all(api.ErrFixed), func() string { return all(s.Copy(at(3, 0), at(3, 1), 4)) })
	for _, x := range [][3]int{{0, 1, 2}, {1, 0, 2}, {0, 7, 8}, {0, 1, 7}, {1, 0, 7}, {0, 3, 4}, {4, 1, 4}} {
		if x[1]+x[2] > 8 || x[0]+x[2] > 8 {
			continue
		}
		does(t, s, all("ranges with a byte in common", x), all(api.ErrApart), func() string { return all(s.Copy(at(1, x[0]), at(1, x[1]), x[2])) })
	}
}

// 14.3: Copy: bytes, whatever they are, are at to then.
func TestCopy(t *testing.T) {
	s := made(t, 200, 200, -4)
	s.Put(at(3, 0), "abcd")
	s.Put(at(1, 0), "xy")
	s.Store(at(1, 4), "pi", fun(2))
	s.SetContext(at(1, 8), 3)
	does(t, s, "all of it", all(api.OK), func() string { return all(s.Copy(at(2, 1), at(1, 0), 100)) }, 2)
	holds(t, s, 2, holes(1), digits(120, 121), holes(2), pieces(fun(2)), parts(3), holes(127))
	does(t, s, "a string", all(api.OK), func() string { return all(s.Copy(at(2, 62), at(3, 0), 4)) }, 2)
	holds(t, s, 2, holes(1), digits(120, 121), holes(2), pieces(fun(2)), parts(3)[:53], digits(97, 98, 99, 100), parts(3)[57:], holes(127))
	does(t, s, "holes", all(api.OK), func() string { return all(s.Copy(at(2, 0), at(1, 100), 9)) }, 2)
	holds(t, s, 2, holes(9), parts(3)[:53], digits(97, 98, 99, 100), parts(3)[57:], holes(127))
	for _, x := range [][3]int{{0, 4, 4}, {4, 0, 4}, {0, 100, 100}, {100, 0, 100}, {0, 0, 200}, {3, 3, 7}, {5, 6, 1}, {5, 9, 0}, {200, 0, 0}, {200, 200, 0}} {
		want, _ := s.Bytes(1)
		want = slices.Clone(want)
		copy(want[x[0]:], want[x[1]:x[1]+x[2]])
		does(t, s, all("in the block", x), all(api.OK), func() string { return all(s.Copy(at(1, x[0]), at(1, x[1]), x[2])) }, 1)
		holds(t, s, 1, want)
	}
}

// 14.3: Put: a text's bytes, also in a string.
func TestPut(t *testing.T) {
	s := twoBlocks(t)
	for p, e := range wrong {
		does(t, s, all("Put at", p), all(e), func() string { return all(s.Put(p, "a")) })
	}
	does(t, s, "one too many", all(api.ErrReach), func() string { return all(s.Put(at(1, 4), "abcde")) })
	does(t, s, "none, beyond", all(api.ErrReach), func() string { return all(s.Put(at(1, 9), "")) })
	does(t, s, "none, dead", all(api.ErrDead), func() string { return all(s.Put(at(2, 0), "")) })
	does(t, s, "none", all(api.OK), func() string { return all(s.Put(at(1, 8), "")) }, 1)
	does(t, s, "some", all(api.OK), func() string { return all(s.Put(at(1, 3), "\x00\xff\x80\x7f\n")) }, 1)
	holds(t, s, 1, digits(97, 98, 99, 0, 255, 128, 127, 10))
	for _, n := range []int{-300, 300} {
		s := made(t, n)
		does(t, s, "a long one", all(api.OK), func() string { return all(s.Put(at(1, 30), strings.Repeat("abc", 90))) }, 1)
		holds(t, s, 1, holes(30), slices.Repeat(digits(97, 98, 99), 90))
	}
}

// 14.3: Unset: n bytes are unset, others stay.
func TestUnset(t *testing.T) {
	s := twoBlocks(t)
	for p, e := range wrong {
		does(t, s, all("Unset at", p), all(e), func() string { return all(s.Unset(p, 1)) })
		does(t, s, all("Unset below 0 at", p), all(api.ErrRange), func() string { return all(s.Unset(p, -1)) })
	}
	for _, n := range []int{9, math.MaxInt} {
		does(t, s, all("too many", n), all(api.ErrReach), func() string { return all(s.Unset(at(1, 0), n)) })
		does(t, s, all("too many of a dead one", n), all(api.ErrDead), func() string { return all(s.Unset(at(2, 0), n)) })
	}
	does(t, s, "below 0", all(api.ErrRange), func() string { return all(s.Unset(at(1, 0), math.MinInt)) })
	f := made(t, -4)
	does(t, f, "a string", all(api.ErrFixed), func() string { return all(f.Unset(at(1, 0), 1)) })
	does(t, f, "no byte of a string", all(api.ErrFixed), func() string { return all(f.Unset(at(1, 4), 0)) })
	does(t, f, "beyond a string", all(api.ErrReach), func() string { return all(f.Unset(at(1, 4), 1)) })

	text := strings.Repeat("0123456789", 30)
	for _, x := range [][2]int{{0, 0}, {0, 1}, {0, 300}, {299, 1}, {300, 0}, {63, 2}, {64, 64}, {64, 63}, {65, 64}, {1, 298}, {100, 100}, {128, 172}} {
		s := made(t, 300)
		s.Put(at(1, 0), text)
		full, _ := s.Bytes(1)
		does(t, s, all("Unset", x), all(api.OK), func() string { return all(s.Unset(at(1, x[0]), x[1])) }, 1)
		holds(t, s, 1, full[:x[0]], holes(x[1]), full[x[0]+x[1]:])
		s.Put(at(1, 0), text)
		holds(t, s, 1, full)
	}
}
