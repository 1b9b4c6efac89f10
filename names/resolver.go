package names

import (
	"slices"

	"catapult/api"
	"catapult/tree"
)

// resolver goes over the nodes of a function; it embeds the innermost scope around the node at which it is.
type resolver struct {
	*scope
	slots    []api.Slot
	bindings []api.Binding
	uses     []string // the names of the file that were come to
}

// resolve is what came of going over the function of a name, or the first fault.
func resolve(u api.Unit, name string) (*resolver, api.Fault) {
	f, fault := read(u)
	if fault.Code != api.OK {
		return nil, fault
	}
	x, ok := f.body(name)
	if !ok {
		return nil, api.Fault{Code: api.ErrNone}
	}
	r := &resolver{scope: within(f.scope, 0), bindings: make([]api.Binding, len(x.Body))}
	if fault := r.function(x); fault.Code != api.OK {
		return nil, fault
	}
	return r, api.Fault{}
}

// function goes over a function's parameters and the nodes of its body.
func (r *resolver) function(x api.Func) api.Fault {
	for _, v := range x.Params {
		if r.has(v.Name) {
			return api.Fault{At: x.At, Code: api.ErrTwice}
		}
		r.slot(api.Slot{Name: v.Name, Type: v.Type, Volatile: v.Volatile, Param: true}, ahead)
	}
	// The body is right, as the unit is, so Walk tells no error.
	places, _ := tree.Walk(x.Body)
	for at, depth := range places {
		r.leave(depth)
		if e := r.node(x.Body[at], at, depth); e != api.OK {
			return api.Fault{At: x.Body[at].At, Code: e}
		}
	}
	return api.Fault{}
}

// leave goes out of the scopes that a node so deep is not in.
func (r *resolver) leave(depth int) {
	for r.depth >= depth {
		r.scope = r.scope.scope
	}
}

// node goes over a node, ahead of its parts.
func (r *resolver) node(n api.Node, at, depth int) api.Errno {
	switch n.Kind {
	case api.NBlock, api.NFor:
		// The body itself has no scope but that of the parameters.
		if depth > 1 {
			r.scope = within(r.scope, depth)
		}
	case api.NDecl:
		return r.local(n, at)
	case api.NName:
		return r.use(n.Text, at)
	}
	return api.OK
}

// slot declares a slot in the innermost scope.
func (r *resolver) slot(s api.Slot, at int) api.Binding {
	b := api.Binding{Kind: api.NameSlot, Index: len(r.slots), Type: s.Type}
	r.declare(s.Name, b, at)
	r.slots = append(r.slots, s)
	return b
}

// local goes over the declaration of a local variable.
func (r *resolver) local(n api.Node, at int) api.Errno {
	if r.has(n.Text) {
		return api.ErrTwice
	}
	if len(r.slots) == api.MaxVars {
		return api.ErrLong
	}
	r.bindings[at] = r.slot(api.Slot{Name: n.Text, Type: n.Type, Volatile: n.Int == 1}, at)
	return api.OK
}

// use goes over a name.
func (r *resolver) use(name string, at int) api.Errno {
	b := r.find(name, at)
	if b.Kind == 0 {
		return api.ErrName
	}
	r.bindings[at] = b
	isOfFile := b.Kind == api.NameGlobal || b.Kind == api.NameFunc
	if isOfFile && !slices.Contains(r.uses, name) {
		r.uses = append(r.uses, name)
	}
	return api.OK
}
