package block_test

import (
	"maps"
	"slices"

	"catapult/api"
)

// What the document's chapter says, reckoned apart from the program, in the plainest way: a byte for each block and place, and what is wrong as a list, of which the first holds.

// place is a place in a block.
type place struct{ b, off int }

// plain is a store in the plainest way: what stands nowhere is unset.
type plain struct {
	sizes, kinds []int
	dead         map[int]int
	bytes        map[place]api.Byte
	touched      map[int]int
}

func plainStore() *plain {
	return &plain{dead: map[int]int{}, bytes: map[place]api.Byte{}, touched: map[int]int{}}
}

func (s *plain) clone() *plain {
	return &plain{slices.Clone(s.sizes), slices.Clone(s.kinds), maps.Clone(s.dead), maps.Clone(s.bytes), maps.Clone(s.touched)}
}

// fault is something that may be wrong.
type fault struct {
	holds bool
	e     api.Errno
}

// first is the first thing that is wrong.
func first(l ...fault) api.Errno {
	for _, x := range l {
		if x.holds {
			return x.e
		}
	}
	return api.OK
}

// is turns an error into something that may be wrong.
func is(e api.Errno) fault { return fault{e != api.OK, e} }

func (s *plain) there(b int) bool { return b >= 1 && b <= len(s.sizes) }

func (s *plain) lives(b int) bool {
	_, dead := s.dead[b]
	return s.there(b) && !dead
}

// why is why a pointer does not reach n bytes.
func (s *plain) why(p api.Value, n int) api.Errno {
	if p.Kind != 2 || !s.there(p.Int) {
		return api.ErrReach
	}
	size := s.sizes[p.Int-1]
	return first(fault{p.Off < 0, api.ErrReach}, fault{!s.lives(p.Int), api.ErrDead}, fault{p.Off > size || n > size || p.Off+n > size, api.ErrReach})
}

// skew is something that may be wrong with a place.
func skew(p api.Value, n int) fault { return fault{p.Off%max(n, 1) != 0, api.ErrSkew} }

// fixed is whether a pointer is into a string.
func (s *plain) fixed(p api.Value) fault {
	return fault{s.there(p.Int) && s.kinds[p.Int-1] == 1, api.ErrFixed}
}

func (s *plain) make(size, kind int) (int, api.Errno) {
	living, taken := 0, 0
	for i, n := range s.sizes {
		if s.lives(i + 1) {
			living++
			taken += n
		}
	}
	if e := first(fault{size < 0 || size > 131072, api.ErrRange}, fault{kind < 0 || kind > 1, api.ErrRange}, fault{living >= 65536, api.ErrLong}, fault{taken+size > 1048576, api.ErrLong}); e != api.OK {
		return 0, e
	}
	s.sizes, s.kinds = append(s.sizes, size), append(s.kinds, kind)
	s.touched[len(s.sizes)] = 1
	return len(s.sizes), api.OK
}

func (s *plain) kill(b int) api.Errno {
	e := first(fault{!s.there(b), api.ErrNone}, fault{!s.lives(b), api.ErrDead})
	if e == api.OK {
		s.dead[b], s.touched[b] = 1, 1
	}
	return e
}

func (s *plain) size(b int) (int, int, api.Errno) {
	if !s.there(b) {
		return 0, 0, api.ErrNone
	}
	return s.sizes[b-1], s.kinds[b-1], api.OK
}

func (s *plain) all(b int) ([]api.Byte, api.Errno) {
	if !s.there(b) {
		return nil, api.ErrNone
	}
	return s.read(at(b, 0), s.sizes[b-1]), api.OK
}

// read is n bytes at a pointer.
func (s *plain) read(p api.Value, n int) []api.Byte {
	var l []api.Byte
	for i := range n {
		l = append(l, s.bytes[place{p.Int, p.Off + i}])
	}
	return l
}

// write lets bytes stand at a pointer, if nothing is wrong.
func (s *plain) write(p api.Value, l []api.Byte, e api.Errno) api.Errno {
	if e != api.OK {
		return e
	}
	for i, x := range l {
		s.bytes[place{p.Int, p.Off + i}] = x
	}
	s.touched[p.Int] = 1
	return api.OK
}

// scalar is a scalar type: its bytes, and the least and greatest of its numbers (none of a pointer's).
type scalar struct{ bytes, low, high int }

// scalars is the types that calls are handed; of all others there is nothing here.
func scalars() map[api.Type]scalar {
	return map[api.Type]scalar{"c": {1, -128, 127}, "s": {2, -32768, 32767}, "i": {4, -2147483648, 2147483647}, "u": {4, 0, 4294967295}, "pi": {4, 1, 0}, "pv": {4, 1, 0}, "pf(i)i": {4, 1, 0}}
}

func (s *plain) load(p api.Value, t api.Type) (api.Value, api.Errno) {
	x, ok := scalars()[t]
	if e := first(fault{!ok, api.ErrShape}, is(s.why(p, x.bytes)), skew(p, x.bytes)); e != api.OK {
		return none, e
	}
	l := s.read(p, x.bytes)
	n, scale, numbers := 0, 1, 0
	v := l[0].V
	for i, b := range l {
		if b.Kind == 0 {
			return none, api.ErrHole
		}
		n += scale * b.N
		scale *= 256
		if b.Kind == 1 {
			numbers++
		}
		if l[i].Kind != 2 || l[i].N != i || l[i].V != l[0].V {
			v = none
		}
	}
	if x.low <= x.high && numbers == len(l) {
		for n > x.high {
			n -= scale
		}
		return num(n), api.OK
	}
	if x.low > x.high && v != none {
		return v, api.OK
	}
	return none, api.ErrPieces
}

func (s *plain) store(p api.Value, t api.Type, v api.Value) api.Errno {
	x, ok := scalars()[t]
	pointer := x.low > x.high
	fits := v.Kind == 1 && x.low <= v.Int && v.Int <= x.high && v.Off == 0 || pointer && (v.Kind == 2 || v.Kind == 3 && v.Int == 0 && v.Off == 0 || v.Kind == 4 && v.Off == 0)
	e := first(fault{!ok || !fits, api.ErrShape}, is(s.why(p, x.bytes)), skew(p, x.bytes), s.fixed(p))
	n := (v.Int%4294967296 + 4294967296) % 4294967296
	var l []api.Byte
	for i := range x.bytes {
		if pointer {
			l = append(l, api.Byte{Kind: 2, N: i, V: v})
		} else {
			l = append(l, api.Byte{Kind: 1, N: n % 256})
		}
		n /= 256
	}
	return s.write(p, l, e)
}

func (s *plain) copy(to, from api.Value, n int) api.Errno {
	e := first(fault{n < 0, api.ErrRange}, is(s.why(to, n)), is(s.why(from, n)), s.fixed(to))
	if e != api.OK {
		return e
	}
	common := 0
	for i := range n {
		if to.Int == from.Int && to.Off <= from.Off+i && from.Off+i < to.Off+n {
			common++
		}
	}
	return s.write(to, s.read(from, n), first(fault{common > 0 && common < n, api.ErrApart}))
}

func (s *plain) put(p api.Value, text string) api.Errno {
	var l []api.Byte
	for _, c := range []byte(text) {
		l = append(l, api.Byte{Kind: 1, N: int(c)})
	}
	return s.write(p, l, s.why(p, len(text)))
}

func (s *plain) unset(p api.Value, n int) api.Errno {
	e := first(fault{n < 0, api.ErrRange}, is(s.why(p, n)), s.fixed(p))
	if e != api.OK {
		return e
	}
	return s.write(p, make([]api.Byte, n), e)
}

func (s *plain) setContext(p api.Value, c int) api.Errno {
	return s.write(p, parts(c), first(fault{c < 0, api.ErrRange}, is(s.why(p, 64)), skew(p, 4), s.fixed(p)))
}

func (s *plain) context(p api.Value) (int, api.Errno) {
	if e := first(is(s.why(p, 64)), skew(p, 4)); e != api.OK {
		return 0, e
	}
	l := s.read(p, 64)
	c := l[0].C
	if e := first(fault{slices.Contains(l, api.Byte{}), api.ErrHole}, fault{!slices.Equal(l, parts(c)), api.ErrPieces}); e != api.OK {
		return 0, e
	}
	return c, api.OK
}

// nowhere is whether a value is nothing, or a function.
func nowhere(v api.Value) bool { return v.Kind == 3 || v.Kind == 4 }

func (s *plain) add(p api.Value, n int) (api.Value, api.Errno) {
	if nowhere(p) && n == 0 {
		return p, api.OK
	}
	if e := s.why(p, 0); e != api.OK {
		return none, e
	}
	q := at(p.Int, p.Off+n)
	if n > 1<<40 || n < -1<<40 || s.why(q, 0) != api.OK {
		return none, api.ErrReach
	}
	return q, api.OK
}

func (s *plain) same(p, q api.Value) (bool, api.Errno) {
	if nowhere(p) && nowhere(q) {
		return p.Kind == q.Kind && (p.Kind == 3 || p.Int == q.Int), api.OK
	}
	if nowhere(p) {
		return false, s.why(q, 0)
	}
	if nowhere(q) {
		return false, s.why(p, 0)
	}
	if e := first(is(s.why(p, 0)), is(s.why(q, 0))); e != api.OK || p.Int == q.Int {
		return e == api.OK && p.Off == q.Off, e
	}
	strings := s.kinds[p.Int-1] == 1 && s.kinds[q.Int-1] == 1
	ends := p.Off == s.sizes[p.Int-1] || q.Off == s.sizes[q.Int-1]
	return false, first(fault{strings || ends, api.ErrApart})
}

func (s *plain) apart(p, q api.Value) (int, api.Errno) {
	e := first(fault{p.Kind != 2 || q.Kind != 2, api.ErrReach}, is(s.why(p, 0)), is(s.why(q, 0)), fault{p.Int != q.Int, api.ErrApart})
	if e != api.OK {
		return 0, e
	}
	return p.Off - q.Off, api.OK
}

func (s *plain) changed() []int {
	l := slices.Sorted(maps.Keys(s.touched))
	s.touched = map[int]int{}
	return l
}
