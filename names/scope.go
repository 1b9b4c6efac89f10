package names

import "catapult/api"

// ahead is a place ahead of all nodes of a list.
const ahead = -1

// declared is what a name stands for behind the place where it is declared.
type declared struct {
	api.Binding
	at int
}

// scope is the names that are declared in it, within the scope that it embeds.
type scope struct {
	*scope
	own   map[string]declared
	depth int // of the node whose scope it is
}

// within is a scope of no names within another one.
func within(around *scope, depth int) *scope {
	return &scope{scope: around, own: map[string]declared{}, depth: depth}
}

// builtScope is the scope of the built-in names, around all others.
func builtScope() *scope {
	s := within(nil, 0)
	for i, v := range Built() {
		s.declare(v.Name, api.Binding{Kind: api.NameBuilt, Index: i, Type: v.Type}, ahead)
	}
	return s
}

// has tells whether a name is declared in the scope itself.
func (s *scope) has(name string) bool {
	_, ok := s.own[name]
	return ok
}

// declare has a name stand for something behind a place.
func (s *scope) declare(name string, b api.Binding, at int) {
	s.own[name] = declared{b, at}
}

// find is what a name at a place stands for: of no kind, if it stands for nothing.
func (s *scope) find(name string, at int) api.Binding {
	d, ok := s.own[name]
	if ok && d.at < at || s.scope == nil {
		return d.Binding
	}
	return s.scope.find(name, at)
}
