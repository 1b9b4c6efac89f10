package block_test

import (
	"math"
	"testing"

	"catapult/api"
	"catapult/block"
)

// 14.1: blocks are numbered from 1 on, unset, and live.
func TestMake(t *testing.T) {
	s := block.New()
	same(t, "Changed of a new one", s.Changed(), []int{})
	same(t, "Bytes of a new one", all(s.Bytes(1)), all([]api.Byte{}, api.ErrNone))
	for i, n := range []int{8, 0, -3, block.MaxBlock, 0, 1} {
		b := i + 1
		same(t, "Lives ahead of it", s.Lives(b), false)
		does(t, s, all("Make of", n), all(b, api.OK), func() string { return all(s.Make(max(n, -n), kindOf(n))) }, b)
		same(t, "Lives", s.Lives(b), true)
		same(t, "Size", all(s.Size(b)), all(max(n, -n), kindOf(n), api.OK))
		holds(t, s, b, holes(max(n, -n)))
	}
	same(t, "a string of no bytes", all(s.Make(0, block.BlockText)), all(7, api.OK))
	same(t, "its size", all(s.Size(7)), all(0, 1, api.OK))
}

// 14.1: the limits and kinds, by their numbers.
func TestLimits(t *testing.T) {
	same(t, "limits", all(block.MaxBlock, block.MaxBlocks, block.MaxStore), all(131072, 65536, 1048576))
	same(t, "kinds", all(block.BlockPlain, block.BlockText), all(0, 1))
}

// 14.1: what is wrong with a block to be made.
func TestMakeRefused(t *testing.T) {
	s := made(t, 4)
	for _, x := range [][2]int{{-1, 0}, {block.MaxBlock + 1, 0}, {math.MinInt, 0}, {math.MaxInt, 1}, {1, 2}, {1, -1}, {0, math.MaxInt}, {-1, 2}} {
		does(t, s, all("Make of", x), all(0, api.ErrRange), func() string { return all(s.Make(x[0], x[1])) })
	}
	for range block.MaxStore/block.MaxBlock - 1 {
		s.Make(block.MaxBlock, 0)
	}
	does(t, s, "one more than fits", all(0, api.ErrLong), func() string { return all(s.Make(block.MaxBlock-3, 0)) })
	does(t, s, "a wrong one, where it is full", all(0, api.ErrRange), func() string { return all(s.Make(block.MaxBlock+1, 0)) })
	does(t, s, "a wrong kind, where it is full", all(0, api.ErrRange), func() string { return all(s.Make(block.MaxBlock-3, 2)) })
	does(t, s, "what fits", all(9, api.OK), func() string { return all(s.Make(block.MaxBlock-4, 1)) }, 9)
	does(t, s, "a byte more", all(0, api.ErrLong), func() string { return all(s.Make(1, 0)) })
	does(t, s, "a block of no bytes", all(10, api.OK), func() string { return all(s.Make(0, 0)) }, 10)
	same(t, "Kill", s.Kill(1), api.OK)
	does(t, s, "a byte more than was killed", all(0, api.ErrLong), func() string { return all(s.Make(5, 0)) })
	does(t, s, "as many as were killed", all(11, api.OK), func() string { return all(s.Make(4, 0)) }, 11)
}

// 14.1: MaxBlocks blocks may live, however many there were.
func TestManyBlocks(t *testing.T) {
	s := block.New()
	for i := range block.MaxBlocks {
		if b, e := s.Make(i%2, i/2%2); b != i+1 || e != api.OK {
			t.Fatalf("Make of the block %d: %d, %v", i+1, b, e)
		}
	}
	same(t, "Changed", len(s.Changed()), block.MaxBlocks)
	same(t, "one more", all(s.Make(0, 0)), all(0, api.ErrLong))
	same(t, "a wrong one more", all(s.Make(0, 2)), all(0, api.ErrRange))
	same(t, "Changed by what is refused", s.Changed(), []int{})
	for i := range 3 * block.MaxBlocks {
		if e := s.Kill(i + 1); e != api.OK {
			t.Fatalf("Kill of the block %d: %v", i+1, e)
		}
		if b, e := s.Make(16, 0); b != block.MaxBlocks+i+1 || e != api.OK {
			t.Fatalf("Make behind it: %d, %v", b, e)
		}
	}
	same(t, "one more", all(s.Make(0, 0)), all(0, api.ErrLong))
}

// 14.1: what was killed lives no more, and takes no room; its bytes stand as they were.
func TestKill(t *testing.T) {
	s := made(t, 4, -2, 0)
	s.Store(at(1, 0), "s", num(258))
	for _, b := range []int{0, -1, 4, math.MaxInt, math.MinInt} {
		does(t, s, all("Kill of", b), all(api.ErrNone), func() string { return all(s.Kill(b)) })
		same(t, all("Lives", b), s.Lives(b), false)
		same(t, all("Size", b), all(s.Size(b)), all(0, 0, api.ErrNone))
		same(t, all("Bytes", b), all(s.Bytes(b)), all([]api.Byte{}, api.ErrNone))
	}
	for b := 3; b > 0; b-- {
		does(t, s, all("Kill of", b), all(api.OK), func() string { return all(s.Kill(b)) }, b)
		does(t, s, all("Kill once more of", b), all(api.ErrDead), func() string { return all(s.Kill(b)) })
		same(t, all("Lives", b), s.Lives(b), false)
		same(t, all("the one ahead lives", b), s.Lives(b-1), b > 1)
	}
	same(t, "Size of 1", all(s.Size(1)), all(4, 0, api.OK))
	same(t, "Size of 2", all(s.Size(2)), all(2, 1, api.OK))
	holds(t, s, 1, digits(2, 1), holes(2))
	holds(t, s, 2, holes(2))
	same(t, "the next one's number", all(s.Make(4, 0)), all(4, api.OK))
	holds(t, s, 4, holes(4))
	holds(t, s, 1, digits(2, 1), holes(2))
}

// 14.1: Changed tells blocks that were made, killed, written, as they were, or with no byte; rising, once.
func TestChanged(t *testing.T) {
	s := made(t, 100, 100, -100, 100, 100)
	for _, call := range []func() string{
		func() string { return all(s.Store(at(2, 0), "c", num(1))) },
		func() string { return all(s.Store(at(2, 0), "c", num(1))) },
		func() string { return all(s.Copy(at(2, 0), at(1, 0), 4)) },
		func() string { return all(s.Copy(at(2, 100), at(3, 100), 0)) },
		func() string { return all(s.Copy(at(2, 0), at(2, 0), 100)) },
		func() string { return all(s.Put(at(2, 0), "a")) },
		func() string { return all(s.Put(at(2, 100), "")) },
		func() string { return all(s.Unset(at(2, 50), 50)) },
		func() string { return all(s.Unset(at(2, 100), 0)) },
		func() string { return all(s.SetContext(at(2, 36), 0)) },
	} {
		does(t, s, "what is written", all(api.OK), call, 2)
	}
	s.Put(at(3, 1), "x")
	s.SetContext(at(5, 0), 1)
	s.Kill(4)
	s.Make(1, 1)
	s.Make(0, 0)
	s.Kill(7)
	s.Unset(at(1, 3), 0)
	s.Put(at(3, 2), "y")
	same(t, "Changed", s.Changed(), []int{1, 3, 4, 5, 6, 7})
	same(t, "Changed once more", s.Changed(), []int{})
	for _, call := range []func() string{
		func() string { return all(s.Load(at(3, 1), "c")) },
		func() string { return all(s.Context(at(5, 0))) },
		func() string { return all(s.Add(at(1, 0), 1)) },
		func() string { return all(s.Same(at(1, 0), at(2, 0))) },
		func() string { return all(s.Below(at(1, 0), at(1, 0))) },
		func() string { return all(s.Apart(at(1, 0), at(1, 0))) },
		func() string { return all(s.Bytes(1)) },
		func() string { return all(s.Size(1)) },
		func() string { return all(s.Lives(1)) },
		func() string { return all(s.Clone().Changed()) },
	} {
		does(t, s, "what is read", call(), call)
	}
}

// 14.1: a clone stands where the store does, and each goes its own way.
func TestClone(t *testing.T) {
	s := made(t, 200, -3, 8, 8, 0)
	s.Put(at(1, 10), "abc")
	s.Put(at(1, 150), "abc")
	s.Put(at(2, 0), "xy")
	s.Store(at(3, 4), "i", num(-1))
	s.Kill(3)
	c := s.Clone()
	unchanged(t, "the clone", c, stateOf(s))
	d := c.Clone()
	same(t, "Changed of the clone", c.Changed(), []int{1, 2, 3})
	same(t, "Changed of the store", s.Changed(), []int{1, 2, 3})
	same(t, "Changed of the clone's clone", d.Changed(), []int{1, 2, 3})

	was := stateOf(s)
	c.Put(at(1, 9), "efg")
	c.Unset(at(1, 140), 20)
	c.Put(at(1, 70), "new")
	c.Put(at(2, 2), "z")
	c.Kill(4)
	c.Make(16, 0)
	unchanged(t, "the store, as it was", s, was)
	unchanged(t, "the clone's clone, as it was", d, was)
	same(t, "Changed of the store", s.Changed(), []int{})
	same(t, "Changed of the clone", c.Changed(), []int{1, 2, 4, 6})

	was = stateOf(c)
	s.Put(at(1, 10), "ABC")
	s.Make(3, 1)
	s.Put(at(6, 0), "ABC")
	s.Kill(1)
	s.Kill(5)
	unchanged(t, "the clone, as it was", c, was)
	same(t, "the clone's next one", all(c.Make(1, 0)), all(7, api.OK))
	same(t, "the store's next one", all(s.Make(1, 0)), all(7, api.OK))
}

// 14.1: what lives in a clone is bounded as in the store.
func TestCloneIsBounded(t *testing.T) {
	s := block.New()
	for range block.MaxStore / block.MaxBlock {
		s.Make(block.MaxBlock, 0)
	}
	c := s.Clone()
	same(t, "one more", all(c.Make(1, 0)), all(0, api.ErrLong))
	same(t, "Kill", c.Kill(1), api.OK)
	same(t, "one more, then", all(c.Make(1, 0)), all(9, api.OK))
	same(t, "one more of the store", all(s.Make(1, 0)), all(0, api.ErrLong))
}
