package tree

import (
	"slices"

	"catapult/api"
	"catapult/lex"
	"catapult/types"
)

// unit is a unit that is looked at.
type unit api.Unit

// fault is the first thing that is not right.
func (u unit) fault() api.Fault {
	if len(u.Structs) > api.MaxFields || len(u.Globals) > api.MaxVars || len(u.Funcs) > 2*api.MaxFuncs {
		return api.Fault{Code: api.ErrLong}
	}
	if f := types.Structs(u.Structs); f.Code != api.OK {
		return f
	}
	for i, g := range u.Globals {
		if e := u.global(g); e != api.OK {
			return api.Fault{At: i, Code: e}
		}
	}
	for i, f := range u.Funcs {
		if e := u.function(f); e != api.OK {
			return api.Fault{At: i, Code: e}
		}
	}
	return api.Fault{}
}

// knows tells whether a type is right with the unit's structs.
func (u unit) knows(t api.Type) bool { return types.Check(t, u.Structs) == api.OK }

// global tells what is wrong with a global.
func (u unit) global(g api.Global) api.Errno {
	if !lex.IsName(g.Var.Name) || !isPlace(g.At) || !u.knows(g.Var.Type) || !isVariable(g.Var.Type) {
		return api.ErrTree
	}
	if len(g.Init) > api.MaxItems {
		return api.ErrLong
	}
	for _, t := range g.Init {
		if e := checkAs(t, isExpression); e != api.OK {
			return e
		}
	}
	return api.OK
}

// function tells what is wrong with a function.
func (u unit) function(f api.Func) api.Errno {
	if !lex.IsName(f.Name) || !isPlace(f.At) || !u.knows(f.Type) || !hasRightParams(f) {
		return api.ErrTree
	}
	if isPrototype(f) {
		return api.OK
	}
	return checkAs(f.Body, func(kind int) bool { return kind == api.NBlock })
}

// isPrototype tells whether a function has no body.
func isPrototype(f api.Func) bool { return len(f.Body) == 0 }

// hasRightParams tells whether a function's type is one, and its parameters are those that the type has.
func hasRightParams(f api.Func) bool {
	_, params, e := types.Sign(f.Type)
	if e != api.OK {
		return false
	}
	return slices.EqualFunc(f.Params, params, func(v api.Var, t api.Type) bool {
		if isPrototype(f) && v.Name == "" {
			return v.Type == t && !v.Volatile
		}
		return v.Type == t && lex.IsName(v.Name) && !(v.Volatile && isPrototype(f))
	})
}

// checkAs tells what is wrong with a tree that is to be of certain kinds.
func checkAs(t api.Tree, is func(kind int) bool) api.Errno {
	if e := Check(t); e != api.OK {
		return e
	}
	if !is(whole(t).Kind) {
		return api.ErrTree
	}
	return api.OK
}
