package block

import "catapult/api"

// Load is the value at a pointer.
func (s *Store) Load(p api.Value, t api.Type) (api.Value, api.Errno) {
	n := width(t)
	if n == 0 {
		return api.Value{}, api.ErrShape
	}
	b, e := s.aligned(p, n, n)
	if e != api.OK {
		return api.Value{}, e
	}
	var room [wordBytes]api.Byte
	b.read(p.Off, room[:n])
	return value(t, room[:n])
}

// Store puts a value at a pointer.
func (s *Store) Store(p api.Value, t api.Type, v api.Value) api.Errno {
	n := width(t)
	if n == 0 || !fits(t, v) {
		return api.ErrShape
	}
	b, e := s.aligned(p, n, n)
	if e != api.OK {
		return e
	}
	return s.overwrite(b, p, pieces(v, n))
}

// Copy copies bytes.
func (s *Store) Copy(to, from api.Value, n int) api.Errno {
	if n < 0 {
		return api.ErrRange
	}
	b, e := s.reached(to, n)
	if e != api.OK {
		return e
	}
	source, e := s.reached(from, n)
	if e != api.OK {
		return e
	}
	if b.fixed {
		return api.ErrFixed
	}
	if d := to.Off - from.Off; to.Int == from.Int && d != 0 && -n < d && d < n {
		return api.ErrApart
	}
	l := make([]api.Byte, n)
	source.read(from.Off, l)
	return s.overwrite(b, to, l)
}

// Put puts a text's bytes.
func (s *Store) Put(p api.Value, text string) api.Errno {
	b, e := s.reached(p, len(text))
	if e != api.OK {
		return e
	}
	b.write(p.Off, digits(text))
	s.note(p.Int)
	return api.OK
}

// Unset lets bytes be unset.
func (s *Store) Unset(p api.Value, n int) api.Errno {
	if n < 0 {
		return api.ErrRange
	}
	b, e := s.reached(p, n)
	if e != api.OK {
		return e
	}
	if b.fixed {
		return api.ErrFixed
	}
	b.unset(p.Off, n)
	s.note(p.Int)
	return api.OK
}

// SetContext puts a context.
func (s *Store) SetContext(p api.Value, c int) api.Errno {
	if c < 0 {
		return api.ErrRange
	}
	b, e := s.aligned(p, api.JmpBytes, wordBytes)
	if e != api.OK {
		return e
	}
	return s.overwrite(b, p, contextPieces(c))
}

// Context is the context at a pointer.
func (s *Store) Context(p api.Value) (int, api.Errno) {
	b, e := s.aligned(p, api.JmpBytes, wordBytes)
	if e != api.OK {
		return 0, e
	}
	l := make([]api.Byte, api.JmpBytes)
	b.read(p.Off, l)
	return context(l)
}

// reached is the block in which a pointer reaches n bytes, or why it does not.
func (s *Store) reached(p api.Value, n int) (*block, api.Errno) {
	if p.Kind != api.VPtr || p.Off < 0 {
		return nil, api.ErrReach
	}
	b := s.find(p.Int)
	switch {
	case b == nil:
		return nil, api.ErrReach
	case !b.lives:
		return nil, api.ErrDead
	case p.Off > b.size-n:
		return nil, api.ErrReach
	}
	return b, api.OK
}

// aligned is the block in which a pointer reaches n bytes, at a multiple of so many.
func (s *Store) aligned(p api.Value, n, align int) (*block, api.Errno) {
	b, e := s.reached(p, n)
	if e == api.OK && p.Off%align != 0 {
		return nil, api.ErrSkew
	}
	return b, e
}

// overwrite lets bytes stand at a pointer, in its block, which reaches them, if they may be stored there.
func (s *Store) overwrite(b *block, p api.Value, l []api.Byte) api.Errno {
	if b.fixed {
		return api.ErrFixed
	}
	b.write(p.Off, l)
	s.note(p.Int)
	return api.OK
}
