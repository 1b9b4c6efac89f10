package check

import (
	"catapult/api"
	"catapult/names"
	"catapult/types"
)

// judge looks at a core program, and tells whether it is right.
type judge struct {
	layouts
	core    api.Core
	globals map[string]api.Binding
	funcs   map[string]api.Binding
	built   map[string]api.Binding
}

// judged is the judge of a core program.
func judged(c api.Core) *judge {
	j := &judge{layouts: layoutsOf(c.Structs), core: c, globals: map[string]api.Binding{}, funcs: map[string]api.Binding{}, built: map[string]api.Binding{}}
	for _, g := range c.Globals {
		put(j.globals, g.Name, g.Type)
	}
	for _, f := range c.Funcs {
		put(j.funcs, f.Name, f.Type)
	}
	for _, v := range names.Built() {
		put(j.built, v.Name, v.Type)
	}
	return j
}

// has tells whether a name stands for something.
func has(l map[string]api.Binding, name string) bool {
	_, ok := l[name]
	return ok
}

// put has a name stand for something of a type, unless it does so already.
func put(l map[string]api.Binding, name string, t api.Type) {
	if !has(l, name) {
		l[name] = api.Binding{Type: t}
	}
}

// fault is the first thing that is not right.
func (j *judge) fault() api.Fault {
	if j.isLong() {
		return api.Fault{Code: api.ErrLong}
	}
	if f := types.Structs(j.structs); f.Code != api.OK {
		return f
	}
	taken := map[string]int{} // the names that are ahead, and where they stand
	for i, g := range j.core.Globals {
		if !j.mayBeNamed(g.Name, taken) || !j.global(g) {
			return api.Fault{At: i, Code: api.ErrType}
		}
		taken[g.Name] = i
	}
	for i, f := range j.core.Funcs {
		if !j.mayBeNamed(f.Name, taken) || !j.function(f) {
			return api.Fault{At: i, Code: api.ErrTree}
		}
		taken[f.Name] = i
	}
	if j.funcs[mainName].Type != mainType {
		return api.Fault{Code: api.ErrMain}
	}
	return api.Fault{}
}

// isLong tells whether there are too many of a kind, or a string is too long.
func (j *judge) isLong() bool {
	c := j.core
	isLong := len(c.Globals) > api.MaxVars || len(c.Funcs) > api.MaxFuncs || len(c.Strings) > api.MaxItems
	for _, s := range c.Strings {
		isLong = isLong || len(s) > api.MaxStr
	}
	return isLong
}

// mayBeNamed tells whether a global or a function may have a name, behind those that are taken.
func (j *judge) mayBeNamed(name string, taken map[string]int) bool {
	_, isTaken := taken[name]
	return isName(name) && !isTaken && !has(j.built, name)
}

// isObject tells whether a type is right, and an object's.
func (j *judge) isObject(t api.Type) bool { return j.size(t) > 0 }

// isInText tells whether a number may be that of a place in a text.
func isInText(n int) bool { return 0 <= n && n <= api.MaxText }

// isPlain tells whether a node has a place in the text, and no number and no text but what its kind uses.
func isPlain(n api.Node) bool {
	return isInText(n.At) && (n.Int == 0 || usesInt(n.Kind)) && (n.Text == "" || usesText(n.Kind))
}

// usesInt tells whether a kind of nodes has a number.
func usesInt(kind int) bool {
	switch kind {
	case api.KInt, api.KLocal, api.KString, api.KPlus, api.KMinus, api.KField, api.KUpdate, api.KIncr, api.SDecl, api.SLoop, api.SCase:
		return true
	}
	return false
}

// usesText tells whether a kind of nodes has a text.
func usesText(kind int) bool {
	switch kind {
	case api.KFunc, api.KGlobal, api.KUpdate, api.KIncr, api.KBuilt:
		return true
	}
	return false
}

// global tells whether a global is right, but for its name.
func (j *judge) global(g api.CoreVar) bool {
	if !j.isObject(g.Type) {
		return false
	}
	scalars := j.scalars(g.Type, len(g.Init), nil)
	if len(scalars) != len(g.Init) {
		return false
	}
	for i, n := range g.Init {
		if !isPlain(n) || !isInText(n.N) || n.Type != scalars[i] || !j.initial(n) {
			return false
		}
	}
	return true
}

// initial tells whether a node may be that of a scalar of its type.
func (j *judge) initial(n api.Node) bool {
	toFunction := isFunction(target(n.Type))
	switch n.Kind {
	case api.KInt:
		return isInRange(n.Int, n.Type)
	case api.KNull:
		return isPointer(n.Type)
	case api.KFunc:
		return toFunction && has(j.funcs, n.Text)
	case api.KGlobal:
		return isPointer(n.Type) && !toFunction && has(j.globals, n.Text)
	case api.KString:
		return isPointer(n.Type) && !toFunction && j.hasString(n.Int)
	}
	return false
}

// hasString tells whether there is a string of a number.
func (j *judge) hasString(n int) bool { return 0 <= n && n < len(j.core.Strings) }

// function tells whether a function is right, but for its name.
func (j *judge) function(f api.CoreFunc) bool {
	answer, params, e := types.Sign(f.Type)
	if e != api.OK || j.extent(f.Type).code != api.OK || !j.hasSlots(f, params) {
		return false
	}
	b := body{judge: j, slots: f.Slots, answer: answer, labels: map[label]int{}}
	return b.isRight(f.Body)
}

// hasSlots tells whether a function's slots are right: its parameters, and others behind them.
func (j *judge) hasSlots(f api.CoreFunc, params []api.Type) bool {
	if len(f.Slots) > api.MaxVars || len(f.Slots) < len(params) {
		return false
	}
	for i, s := range f.Slots {
		isParam := i < len(params)
		if s.Param != isParam || isParam && s.Type != params[i] || !j.isObject(s.Type) {
			return false
		}
	}
	return true
}

// wordBytes is the bytes of which slots take a multiple.
const wordBytes = 4

// bytes is how many bytes slots take, each rounded up.
func (j *judge) bytes(l []api.Slot) int {
	sum := 0
	for _, s := range l {
		sum += (j.size(s.Type) + wordBytes - 1) / wordBytes * wordBytes
	}
	return sum
}
