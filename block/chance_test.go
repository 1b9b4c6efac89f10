package block_test

import (
	"math"
	"strings"
	"testing"

	"catapult/api"
	"catapult/block"
)

// chance is numbers that hang on the first one alone.
type chance uint32

func (c *chance) next() uint32 {
	*c = *c*1664525 + 1013904223
	return uint32(*c) >> 8
}

// below is a number from 0 to n - 1.
func (c *chance) below(n int) int { return int(c.next()) % n }

// one is a member of a list.
func one[T any](c *chance, l ...T) T { return l[c.below(len(l))] }

// pair is a store, and what it must be.
type pair struct {
	s *block.Store
	p *plain
}

// some is a pointer, most often one into a block, most often a living one, and aligned, about an edge of a page or of the block.
func (x pair) some(c *chance) api.Value {
	switch c.below(32) {
	case 0:
		return one(c, none, null, fun(1), fun(c.below(3)), num(1), api.Value{Kind: 7, Int: 1}, api.Value{Kind: api.VNull, Int: 1}, api.Value{Kind: api.VFunc, Int: 1, Off: 2})
	case 1:
		return at(one(c, 0, -1, len(x.p.sizes)+1, 1), one(c, 0, -1, -4, math.MaxInt, math.MinInt))
	}
	b := max(len(x.p.sizes)-c.below(6), 1)
	if len(x.p.sizes) == 0 {
		return at(b, 0)
	}
	size := x.p.sizes[b-1]
	off := one(c, 0, size, size/64*64, 64, c.below(size+1)) + one(c, 0, 0, 0, 1, -1, 4, -4, 64, -64, c.below(9)-4)
	if c.below(4) > 0 {
		off = off / 4 * 4
	}
	if c.below(3) > 0 {
		off = 4 * c.below(min(size/4, 6)+1)
	}
	return at(b, off)
}

// store makes a call of both that stores, and tells the answers.
func (x pair) store(c *chance) (what, got, want string) {
	p := x.some(c)
	t := one[api.Type](c, "c", "s", "i", "u", "pi", "pv", "pf(i)i", "i", "pi", "v", "j", "")
	v := one(c, num(c.below(300)-150), num(c.below(1<<17)-1<<16), num(int(c.next())-int(c.next())), num(one(c, 1<<31, 1<<31-1, -1<<31, -1<<31-1, 1<<32-1, 1<<32)))
	if strings.HasPrefix(string(t), "p") || c.below(30) == 0 {
		v = x.some(c)
	}
	return all("Store", p, t, v), all(x.s.Store(p, t, v)), all(x.p.store(p, t, v))
}

// write makes a call of both that writes otherwise, and tells the answers.
func (x pair) write(c *chance) (what, got, want string) {
	p, q := x.some(c), x.some(c)
	n := one(c, 0, 1, 2, 3, 4, 4, 8, 63, 64, 65, c.below(200), -1, math.MaxInt)
	switch c.below(6) {
	case 0:
		text := strings.Repeat(string(rune(c.below(300))), min(max(n, 0), 100))
		return all("Put", p, len(text)), all(x.s.Put(p, text)), all(x.p.put(p, text))
	case 1:
		return all("Unset", p, n), all(x.s.Unset(p, n)), all(x.p.unset(p, n))
	case 2:
		k := one(c, 0, 1, 2, c.below(1000), -1)
		return all("SetContext", p, k), all(x.s.SetContext(p, k)), all(x.p.setContext(p, k))
	case 3:
		q = at(p.Int, p.Off+one(c, 0, n, -n, n-1, 1-n, 1))
	}
	return all("Copy", p, q, n), all(x.s.Copy(p, q, n)), all(x.p.copy(p, q, n))
}

// read makes a call of both that reads, and tells the answers.
func (x pair) read(c *chance) (what, got, want string) {
	p, q := x.some(c), x.some(c)
	switch c.below(6) {
	case 0:
		return all("Context", p), all(x.s.Context(p)), all(x.p.context(p))
	case 1:
		b := one(c, p.Int, -1, 0, len(x.p.sizes), len(x.p.sizes)+1)
		return all("Bytes", b), all(x.s.Bytes(b)), all(x.p.all(b))
	case 2:
		return all("Size", q.Int), all(x.s.Size(q.Int)), all(x.p.size(q.Int))
	case 3:
		return all("Lives", q.Int), all(x.s.Lives(q.Int)), all(x.p.lives(q.Int))
	}
	t := one[api.Type](c, "c", "s", "i", "u", "pi", "pv", "pf(i)i", "i", "pi", "v", "j", "")
	return all("Load", p, t), all(x.s.Load(p, t)), all(x.p.load(p, t))
}

// hold makes a call of both that holds pointers against each other, and tells the answers.
func (x pair) hold(c *chance) (what, got, want string) {
	p, q := x.some(c), x.some(c)
	if c.below(2) == 0 {
		q.Int = p.Int
	}
	switch c.below(4) {
	case 0:
		n := one(c, 0, 1, -1, 4, -4, -p.Off, c.below(100), -c.below(100), math.MaxInt, math.MinInt)
		return all("Add", p, n), all(x.s.Add(p, n)), all(x.p.add(p, n))
	case 1:
		return all("Same", p, q), all(x.s.Same(p, q)), all(x.p.same(p, q))
	case 2:
		n, e := x.p.apart(p, q)
		return all("Below", p, q), all(x.s.Below(p, q)), all(n < 0, e)
	}
	return all("Apart", p, q), all(x.s.Apart(p, q)), all(x.p.apart(p, q))
}

// live makes a call of both that makes a block, or kills one, and tells the answers.
func (x pair) live(c *chance) (what, got, want string) {
	if c.below(3) == 0 {
		b := one(c, len(x.p.sizes)-c.below(10), c.below(len(x.p.sizes)+2), -1)
		return all("Kill", b), all(x.s.Kill(b)), all(x.p.kill(b))
	}
	size, kind := one(c, 0, 1, 4, 8, 63, 64, 65, 72, 128, c.below(300), c.below(300), 3000, 131073, -1), one(c, 0, 0, 0, 0, 1, 1, 2)
	return all("Make", size, kind), all(x.s.Make(size, kind)), all(x.p.make(size, kind))
}

// 14.1 to 14.9: over many calls, of stores and their clones, each answer is that of the plainest store, and what is refused changes nothing.
func TestManyCalls(t *testing.T) {
	for seed := range 8 {
		c := chance(seed)
		l := []pair{{block.New(), plainStore()}}
		for i := range 4000 {
			x := l[c.below(len(l))]
			call := one(&c, x.store, x.store, x.store, x.write, x.write, x.read, x.read, x.read, x.hold, x.hold)
			if c.below(40) == 0 || i < 12 {
				call = x.live
			}
			if what, got, want := call(&c); got != want {
				t.Fatalf("call %d, %s: %.300s, want %.300s", i, what, got, want)
			}
			if c.below(6) == 0 {
				same(t, all("Changed at", i), x.s.Changed(), x.p.changed())
			}
			if c.below(150) == 0 {
				y := pair{x.s.Clone(), x.p.clone()}
				if len(l) < 4 {
					l = append(l, y)
				} else {
					l[c.below(4)] = y
				}
			}
		}
		for _, x := range l {
			alike(t, x)
		}
	}
}

// alike fails where a store is not as it must be.
func alike(t *testing.T, x pair) {
	t.Helper()
	var want []told
	for i, n := range x.p.sizes {
		l, _ := x.p.all(i + 1)
		want = append(want, told{n, x.p.kinds[i], x.p.lives(i + 1), l})
	}
	unchanged(t, "at the end", x.s, want)
	same(t, "Changed at the end", x.s.Changed(), x.p.changed())
}
