package check

import (
	"slices"
	"strings"

	"catapult/api"
	"catapult/fold"
	"catapult/types"
)

// extent is what is wrong with a type, and how many bytes it takes: 0 of what has no size.
type extent struct {
	code  api.Errno
	bytes int
}

// memberOf names a member of a struct.
type memberOf struct {
	structure api.Type
	name      string
}

// member is where a struct's member stands, and its type: none, if there is no such member.
type member struct {
	api.Type
	at int
}

// layouts is what types come to with the structs that are given. Each is asked for but once, as each time all structs are laid out.
type layouts struct {
	structs []api.Struct
	extents map[api.Type]extent
	members map[memberOf]member
}

// layoutsOf is the layouts with structs.
func layoutsOf(l []api.Struct) layouts {
	return layouts{structs: l, extents: map[api.Type]extent{}, members: map[memberOf]member{}}
}

// extent is what a type comes to.
func (l layouts) extent(t api.Type) extent {
	x, ok := l.extents[t]
	if !ok {
		x.code = types.Check(t, l.structs)
		x.bytes, _, _ = types.Size(t, l.structs)
		l.extents[t] = x
	}
	return x
}

// size is how many bytes a type takes; 0, if it has no size.
func (l layouts) size(t api.Type) int { return l.extent(t).bytes }

// member is a member of a struct.
func (l layouts) member(t api.Type, name string) member {
	of := memberOf{t, name}
	m, ok := l.members[of]
	if !ok {
		m.at, m.Type, _ = types.Member(l.structs, tag(t), name)
		l.members[of] = m
	}
	return m
}

// tag is the name of a struct.
func tag(t api.Type) string {
	return strings.TrimSuffix(strings.TrimPrefix(string(t), structure), ";")
}

// list is the members of a struct, in order.
func (l layouts) list(t api.Type) []api.Member {
	for _, s := range l.structs {
		if s.Name == tag(t) {
			return s.Members
		}
	}
	return nil
}

// scalars adds the scalars of an object, from the front on, to those that are told, till there are so many.
// There may be more than types.Scalars tells.
func (l layouts) scalars(t api.Type, most int, told []api.Type) []api.Type {
	switch {
	case len(told) == most:
		return told
	case isScalar(t):
		return append(told, t)
	case isStruct(t):
		for _, m := range l.list(t) {
			told = l.scalars(m.Type, most, told)
		}
		return told
	}
	elem, count := element(t) // a jmp_buf has none, and no scalars
	for i := 0; i < count && len(told) < most; i++ {
		told = l.scalars(elem, most, told)
	}
	return told
}

// constant is what a constant expression comes to, as a number of a whole-number type; false of what is not constant.
// The structs are handed on for sizes alone, as each time all of them are laid out.
func (l layouts) constant(x api.Tree, t api.Type) (int, bool) {
	var structs []api.Struct
	if slices.ContainsFunc(x, func(n api.Node) bool { return n.Kind == api.NSizeT }) {
		structs = l.structs
	}
	n, _, e := fold.Eval(x, structs)
	if e != api.OK {
		return 0, false
	}
	n, _ = fold.Convert(n, t)
	return n, true
}
