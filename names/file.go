package names

import (
	"slices"

	"catapult/api"
	"catapult/tree"
)

// file is the scope of a file.
type file struct {
	*scope
	globals int
	order   []string   // its names, globals ahead of functions
	funcs   []api.Func // one for each name
}

// read is the file of a unit, or its first fault.
func read(u api.Unit) (*file, api.Fault) {
	if fault := tree.CheckUnit(u); fault.Code != api.OK {
		return nil, fault
	}
	f := &file{scope: within(builtScope(), 0)}
	for _, g := range u.Globals {
		if e := f.global(g.Var); e != api.OK {
			return nil, api.Fault{At: g.At, Code: e}
		}
	}
	for _, x := range u.Funcs {
		if e := f.function(x); e != api.OK {
			return nil, api.Fault{At: x.At, Code: e}
		}
	}
	return f, api.Fault{}
}

// name is what a name of the file stands for by now.
func (f *file) name(name string) api.Binding { return f.find(name, 0) }

// put puts a new name into the file.
func (f *file) put(name string, b api.Binding) {
	f.declare(name, b, ahead)
	f.order = append(f.order, name)
}

// global puts a global into the file.
func (f *file) global(v api.Var) api.Errno {
	if f.name(v.Name).Kind != 0 {
		return api.ErrTwice
	}
	f.put(v.Name, api.Binding{Kind: api.NameGlobal, Index: f.globals, Type: v.Type})
	f.globals++
	return api.OK
}

// function puts a function into the file; one of its name may be there.
func (f *file) function(x api.Func) api.Errno {
	switch b := f.name(x.Name); {
	case b.Kind == api.NameFunc:
		return f.again(x, b.Index)
	case b.Kind != 0:
		return api.ErrTwice
	case len(f.funcs) == api.MaxFuncs:
		return api.ErrLong
	}
	f.put(x.Name, api.Binding{Kind: api.NameFunc, Index: len(f.funcs), Type: x.Type})
	f.funcs = append(f.funcs, x)
	return api.OK
}

// again holds a function against the one of its name, and keeps that with the body.
func (f *file) again(x api.Func, index int) api.Errno {
	switch there := f.funcs[index]; {
	case hasBody(x) && hasBody(there):
		return api.ErrTwice
	case x.Type != there.Type:
		return api.ErrType
	case hasBody(x):
		f.funcs[index] = x
	}
	return api.OK
}

// hasBody tells whether a function is no prototype.
func hasBody(x api.Func) bool { return len(x.Body) > 0 }

// bindings is what each name of the file stands for.
func (f *file) bindings() []api.Binding {
	var l []api.Binding
	for _, name := range f.order {
		l = append(l, f.name(name))
	}
	return l
}

// body is the function of a name that has a body; false, if there is none.
func (f *file) body(name string) (api.Func, bool) {
	i := slices.IndexFunc(f.funcs, func(x api.Func) bool { return x.Name == name && hasBody(x) })
	if i < 0 {
		return api.Func{}, false
	}
	return f.funcs[i], true
}
