package block

import "catapult/api"

// Add is a pointer some bytes on.
func (s *Store) Add(p api.Value, n int) (api.Value, api.Errno) {
	if placeless(p) && n == 0 {
		return p, api.OK
	}
	b, e := s.reached(p, 0)
	if e != api.OK {
		return api.Value{}, e
	}
	if n < -p.Off || n > b.size-p.Off {
		return api.Value{}, api.ErrReach
	}
	p.Off += n
	return p, api.OK
}

// Same tells whether two pointers are the same.
func (s *Store) Same(p, q api.Value) (bool, api.Errno) {
	for _, v := range []api.Value{p, q} {
		if placeless(v) {
			continue
		}
		if _, e := s.reached(v, 0); e != api.OK {
			return false, e
		}
	}
	if placeless(p) || placeless(q) {
		return p.Kind == q.Kind && (p.Kind == api.VNull || p.Int == q.Int), api.OK
	}
	if p.Int == q.Int {
		return p.Off == q.Off, api.OK
	}
	// The machine may have one string in another, or a block behind another: there it hangs on the layout.
	a, b := s.find(p.Int), s.find(q.Int)
	if a.fixed && b.fixed || p.Off == a.size || q.Off == b.size {
		return false, api.ErrApart
	}
	return false, api.OK
}

// Below tells whether a pointer stands ahead of another one.
func (s *Store) Below(p, q api.Value) (bool, api.Errno) {
	n, e := s.Apart(p, q)
	return n < 0, e
}

// Apart is how many bytes two pointers are apart.
func (s *Store) Apart(p, q api.Value) (int, api.Errno) {
	if p.Kind != api.VPtr || q.Kind != api.VPtr {
		return 0, api.ErrReach
	}
	for _, v := range []api.Value{p, q} {
		if _, e := s.reached(v, 0); e != api.OK {
			return 0, e
		}
	}
	if p.Int != q.Int {
		return 0, api.ErrApart
	}
	return p.Off - q.Off, api.OK
}

// placeless tells whether a pointer is to nothing, or to a function.
func placeless(v api.Value) bool { return v.Kind == api.VNull || v.Kind == api.VFunc }
