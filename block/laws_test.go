package block_test

import (
	"math"
	"slices"
	"testing"

	"catapult/api"
	"catapult/block"
)

// values are what each scalar type may be stored as.
func values() map[api.Type][]api.Value {
	return map[api.Type][]api.Value{
		"c": {num(-128), num(-1), num(0), num(127)}, "s": {num(-32768), num(-129), num(258), num(32767)}, "i": {num(-1 << 31), num(-2), num(1 << 20), num(1<<31 - 1)}, "u": {num(0), num(1 << 31), num(1<<32 - 1)},
		"pi": {null, fun(4), at(1, 3), at(7, -9)}, "pf()v": {null, fun(0), at(2, 0)},
	}
}

// 14.6: what was stored is loaded as it was, whatever is stored beside it, and gone when a byte of it is written.
func TestLoadTellsLastStore(t *testing.T) {
	widths := map[api.Type]int{"c": 1, "s": 2, "i": 4, "u": 4, "pi": 4, "pf()v": 4}
	for x, l := range values() {
		for _, v := range l {
			s := made(t, 200)
			s.Put(at(1, 0), "01234567")
			same(t, "Store", s.Store(at(1, 64), x, v), api.OK)
			for off := 0; off < 200; off += 4 {
				if off != 64 {
					s.Store(at(1, off), "i", num(off))
				}
			}
			for off := 64 + widths[x]; off < 68; off++ {
				s.Put(at(1, off), "x")
			}
			same(t, all("Load as", x, v), all(s.Load(at(1, 64), x)), all(v, api.OK))
			for off := range 200 {
				if off/4 != 16 && off%4 == 0 {
					same(t, all("Load beside", off), all(s.Load(at(1, off), "u")), all(num(off), api.OK))
				}
			}
			for k := range widths[x] {
				s.Unset(at(1, 64+k), 1)
				same(t, all("Load with a hole", x, v, k), all(s.Load(at(1, 64), x)), all(none, api.ErrHole))
				s.Store(at(1, 64), x, v)
			}
		}
	}
}

// 14.7: what does not live is never loaded, stored, or held against another one.
func TestDead(t *testing.T) {
	s := made(t, 128, 128)
	s.SetContext(at(1, 0), 1)
	s.Store(at(1, 64), "pi", null)
	s.Kill(1)
	p, q := at(1, 64), at(2, 0)
	for what, call := range map[string]func() string{
		"Load":       func() string { return all(s.Load(p, "pi")) },
		"Add":        func() string { return all(s.Add(p, 0)) },
		"Copy from":  func() string { return all(none, s.Copy(q, p, 4)) },
		"Copy to":    func() string { return all(none, s.Copy(p, q, 0)) },
		"Store":      func() string { return all(none, s.Store(p, "i", num(1))) },
		"Put":        func() string { return all(none, s.Put(p, "")) },
		"Unset":      func() string { return all(none, s.Unset(p, 0)) },
		"SetContext": func() string { return all(none, s.SetContext(at(1, 0), 1)) },
	} {
		does(t, s, what, all(none, api.ErrDead), call)
	}
	for what, call := range map[string]func() string{
		"Same":         func() string { return all(s.Same(p, p)) },
		"Same as null": func() string { return all(s.Same(null, p)) },
		"Same as q":    func() string { return all(s.Same(q, p)) },
		"Below":        func() string { return all(s.Below(p, p)) },
		"Below q":      func() string { return all(s.Below(p, q)) },
	} {
		does(t, s, what, all(false, api.ErrDead), call)
	}
	does(t, s, "Apart", all(0, api.ErrDead), func() string { return all(s.Apart(p, p)) })
	does(t, s, "Context", all(0, api.ErrDead), func() string { return all(s.Context(at(1, 0))) })
}

// 14.8: Add there and back is where one was, Apart is what Add added, and Below whether it was below 0.
func TestThereAndBack(t *testing.T) {
	s := made(t, 9, -9)
	for b := 1; b <= 2; b++ {
		for from := range 10 {
			for to := range 10 {
				p, n := at(b, from), to-from
				q, e := s.Add(p, n)
				same(t, all("Add", p, n), all(q, e), all(at(b, to), api.OK))
				same(t, "and back", all(s.Add(q, -n)), all(p, api.OK))
				same(t, "Apart", all(s.Apart(q, p)), all(n, api.OK))
				same(t, "Below", all(s.Below(q, p)), all(n < 0, api.OK))
				same(t, "Same", all(s.Same(p, q)), all(n == 0, api.OK))
			}
		}
	}
}

// 14.8: Same is as good as equal: of all pointers that are told, it turns about, goes on, and what is the same may stand for the other.
func TestSameIsEqual(t *testing.T) {
	s := made(t, 4, -4, -2, 0, 5)
	s.Kill(5)
	var l []api.Value
	for b := range 7 {
		for off := -1; off < 6; off++ {
			l = append(l, at(b, off))
		}
	}
	l = append(l, null, fun(0), fun(1), fun(1), none, num(0))
	told := func(p, q api.Value) (bool, bool) {
		x, e := s.Same(p, q)
		return x && e == api.OK, e == api.OK
	}
	for _, p := range l {
		for _, q := range l {
			x, ok := told(p, q)
			y, ok2 := told(q, p)
			same(t, all("Same", p, q, "turned about"), all(x, ok), all(y, ok2))
			if x && p != q || ok && p == q && !x {
				t.Errorf("Same of %v and %v: %v", p, q, x)
			}
			for _, r := range l {
				if z, _ := told(q, r); x && z {
					w, ok := told(p, r)
					same(t, all("Same goes on", p, q, r), all(w, ok), all(true, true))
				}
			}
		}
	}
}

// 14.9: a copy carries pointers and contexts whole, byte by byte, too; any byte written in the midst breaks them.
func TestCopyCarriesWhole(t *testing.T) {
	s := made(t, 200, 200)
	s.Store(at(1, 0), "pi", at(2, 7))
	s.SetContext(at(1, 4), 9)
	same(t, "Copy", s.Copy(at(2, 60), at(1, 0), 68), api.OK)
	for k := range 68 {
		same(t, "Copy of a byte", s.Copy(at(1, 100+k), at(1, k), 1), api.OK)
	}
	for _, p := range []api.Value{at(2, 60), at(1, 100)} {
		same(t, "the pointer", all(s.Load(p, "pc")), all(at(2, 7), api.OK))
		same(t, "the context", all(s.Context(at(p.Int, p.Off+4))), all(9, api.OK))
	}
	for k := range 68 {
		c := s.Clone()
		c.Put(at(2, 60+k), "\x00")
		wantV, wantC := all(at(2, 7), api.OK), all(9, api.OK)
		if k < 4 {
			wantV = all(none, api.ErrPieces)
		} else {
			wantC = all(0, api.ErrPieces)
		}
		same(t, all("the pointer, spoiled at", k), all(c.Load(at(2, 60), "pc")), wantV)
		same(t, all("the context, spoiled at", k), all(c.Context(at(2, 64))), wantC)
	}
}

// R4: what is answered is the caller's.
func TestOwnMemory(t *testing.T) {
	s := made(t, 100)
	s.Put(at(1, 0), "abc")
	s.Put(at(1, 70), "abc")
	l, _ := s.Bytes(1)
	was := slices.Clone(l)
	for i := range l[:cap(l)] {
		l[:cap(l)][i] = api.Byte{Kind: 9}
	}
	holds(t, s, 1, was)
	s.Kill(1)
	l, _ = s.Bytes(1)
	clear(l)
	holds(t, s, 1, was)
	same(t, "Changed of a clone", s.Clone().Changed(), []int{1})
	changed := s.Changed()
	_ = append(changed[:0], 7, 8, 9)
	s.Make(1, 0)
	same(t, "Changed", s.Changed(), []int{2})
}

// R1: whatever is handed in, also to a store that New did not make, each call answers.
func TestTotal(t *testing.T) {
	var empty block.Store
	for _, s := range []*block.Store{&empty, new(block.Store), made(t, 4, -80, 80)} {
		for _, n := range []int{0, 1, 2, -1, 4, 64, math.MaxInt, math.MinInt, math.MaxInt - 1} {
			for _, p := range []api.Value{{}, {Kind: n, Int: n, Off: n}, at(n, 0), at(1, n), at(2, n), at(n, n), num(n), fun(n), {Kind: 3, Int: n, Off: n}} {
				for _, x := range append([]api.Type{"c", "i", "pi"}, strange...) {
					s.Load(p, x)
					s.Store(p, x, p)
				}
				for _, q := range []api.Value{{}, at(3, 1), at(2, 1), p} {
					s.Copy(p, q, n)
					s.Copy(q, p, n)
					s.Same(p, q)
					s.Below(p, q)
					s.Apart(p, q)
				}
				s.Put(p, "abc")
				s.Unset(p, n)
				s.SetContext(p, n)
				s.Context(p)
				s.Add(p, n)
			}
			s.Bytes(n)
			s.Size(n)
			s.Lives(n)
			s.Make(n, 0)
			s.Make(0, n)
			s.Kill(n)
			s.Clone().Changed()
		}
		s.Changed()
	}
	var s block.Store
	same(t, "Make of a store that New did not make", all(s.Make(4, 0)), all(1, api.OK))
	same(t, "Store to it", s.Store(at(1, 0), "i", num(5)), api.OK)
	same(t, "Changed", s.Changed(), []int{1})
}
