package names_test

import (
	"slices"
	"strings"
	"testing"

	"catapult/api"
	"catapult/names"
)

// The plainest reckoning: no scope is kept; what a name stands for is looked for among all nodes, from the words of the chapter.

// builtNames is the built-in names, in order.
const builtNames = "getchar putchar exit setjmp longjmp co_new co_resume co_yield co_done co_free"

// isBuilt tells whether a name is a built-in one.
func isBuilt(name string) bool { return slices.Contains(strings.Fields(builtNames), name) }

// plainFault is the first fault of a file that is right to tree.CheckUnit: each one is held against all that are ahead of it.
func plainFault(u api.Unit) api.Fault {
	for i, g := range u.Globals {
		isTwice := isBuilt(g.Var.Name)
		for _, other := range u.Globals[:i] {
			isTwice = isTwice || other.Var.Name == g.Var.Name
		}
		if isTwice {
			return api.Fault{At: g.At, Code: api.ErrTwice}
		}
	}
	for i, x := range u.Funcs {
		isTwice, isOther := isBuilt(x.Name), false
		for _, g := range u.Globals {
			isTwice = isTwice || g.Var.Name == x.Name
		}
		different := map[string]bool{x.Name: true}
		for _, other := range u.Funcs[:i] {
			different[other.Name] = true
			if other.Name == x.Name {
				isTwice = isTwice || len(other.Body) > 0 && len(x.Body) > 0
				isOther = isOther || other.Type != x.Type
			}
		}
		switch {
		case isTwice:
			return api.Fault{At: x.At, Code: api.ErrTwice}
		case isOther:
			return api.Fault{At: x.At, Code: api.ErrType}
		case len(different) > 128:
			return api.Fault{At: x.At, Code: api.ErrLong}
		}
	}
	return api.Fault{}
}

// plainFuncs is a function for each name.
func plainFuncs(u api.Unit) []api.Func {
	var l []api.Func
	for i, x := range u.Funcs {
		sameName := func(y api.Func) bool { return y.Name == x.Name }
		if slices.ContainsFunc(u.Funcs[:i], sameName) {
			continue
		}
		if j := slices.IndexFunc(u.Funcs, func(y api.Func) bool { return sameName(y) && len(y.Body) > 0 }); j >= 0 {
			x = u.Funcs[j]
		}
		l = append(l, x)
	}
	return l
}

// plainFile is what the names of a file stand for, and they.
func plainFile(u api.Unit) ([]api.Binding, []string) {
	var l []api.Binding
	var texts []string
	for i, g := range u.Globals {
		l = append(l, api.Binding{Kind: 1, Index: i, Type: g.Var.Type})
		texts = append(texts, g.Var.Name)
	}
	for i, x := range plainFuncs(u) {
		l = append(l, api.Binding{Kind: 2, Index: i, Type: x.Type})
		texts = append(texts, x.Name)
	}
	return l, texts
}

// looked is a function's body that is looked at.
type looked struct {
	fn      api.Func
	parents []int   // -1 of the whole
	parts   [][]int // of each node
	walk    []int   // all places, each whole ahead of its parts
}

// look is the function of a name that has a body, looked at.
func look(u api.Unit, name string) (looked, bool) {
	l := plainFuncs(u)
	i := slices.IndexFunc(l, func(x api.Func) bool { return x.Name == name && len(x.Body) > 0 })
	if i < 0 {
		return looked{}, false
	}
	x := looked{fn: l[i], parents: make([]int, len(l[i].Body)), parts: make([][]int, len(l[i].Body))}
	var free []int
	for at, n := range x.fn.Body {
		rest := len(free) - n.N
		x.parts[at] = slices.Clone(free[rest:])
		for _, part := range x.parts[at] {
			x.parents[part] = at
		}
		free = append(free[:rest], at)
	}
	x.parents[len(x.parents)-1] = -1
	var visit func(at int)
	visit = func(at int) {
		x.walk = append(x.walk, at)
		for _, part := range x.parts[at] {
			visit(part)
		}
	}
	visit(len(x.parents) - 1)
	return x, true
}

// around is the scopes around a node, the innermost first: the places of their nodes.
func (x looked) around(at int) []int {
	var l []int
	for p := x.parents[at]; p >= 0; p = x.parents[p] {
		if k := x.fn.Body[p].Kind; k == api.NBlock || k == api.NFor {
			l = append(l, p)
		}
	}
	return l
}

// from is the first place of what ends at a place.
func (x looked) from(at int) int {
	for len(x.parts[at]) > 0 {
		at = x.parts[at][0]
	}
	return at
}

// declarations is the places of all NDecls, in the order of the walk.
func (x looked) declarations() []int {
	var l []int
	for _, at := range x.walk {
		if x.fn.Body[at].Kind == api.NDecl {
			l = append(l, at)
		}
	}
	return l
}

// last is the place of the whole.
func (x looked) last() int { return len(x.fn.Body) - 1 }

// slots is the function's slots.
func (x looked) slots() []api.Slot {
	var l []api.Slot
	for _, v := range x.fn.Params {
		l = append(l, api.Slot{Name: v.Name, Type: v.Type, Volatile: v.Volatile, Param: true})
	}
	for _, at := range x.declarations() {
		n := x.fn.Body[at]
		l = append(l, api.Slot{Name: n.Text, Type: n.Type, Volatile: n.Int == 1})
	}
	return l
}

// plainSlots is the slots of a function.
func plainSlots(u api.Unit, name string) []api.Slot {
	x, _ := look(u, name)
	return x.slots()
}

// stands is what a name at a place stands for.
func (x looked) stands(u api.Unit, at int) api.Binding {
	name := x.fn.Body[at].Text
	declarations := x.declarations()
	for _, scope := range x.around(at) {
		for i, d := range declarations {
			if n := x.fn.Body[d]; n.Text == name && d < at && x.around(d)[0] == scope {
				return api.Binding{Kind: 3, Index: len(x.fn.Params) + i, Type: n.Type}
			}
		}
	}
	for i, v := range x.fn.Params {
		if v.Name == name {
			return api.Binding{Kind: 3, Index: i, Type: v.Type}
		}
	}
	l, texts := plainFile(u)
	if i := slices.Index(texts, name); i >= 0 {
		return l[i]
	}
	if i := slices.Index(strings.Fields(builtNames), name); i >= 0 {
		return api.Binding{Kind: 4, Index: i, Type: names.Built()[i].Type}
	}
	return api.Binding{}
}

// fault is the first fault of the function.
func (x looked) fault(u api.Unit) api.Fault {
	for i, v := range x.fn.Params {
		for _, other := range x.fn.Params[:i] {
			if other.Name == v.Name {
				return api.Fault{At: x.fn.At, Code: api.ErrTwice}
			}
		}
	}
	var ahead []int
	for _, at := range x.walk {
		switch n := x.fn.Body[at]; n.Kind {
		case api.NDecl:
			scope, isTwice := x.around(at)[0], false
			for _, d := range ahead {
				isTwice = isTwice || x.around(d)[0] == scope && x.fn.Body[d].Text == n.Text
			}
			for _, v := range x.fn.Params {
				isTwice = isTwice || scope == x.last() && v.Name == n.Text
			}
			if isTwice {
				return api.Fault{At: n.At, Code: api.ErrTwice}
			}
			if len(ahead)+len(x.fn.Params) >= 256 {
				return api.Fault{At: n.At, Code: api.ErrLong}
			}
			ahead = append(ahead, at)
		case api.NName:
			if x.stands(u, at).Kind == 0 {
				return api.Fault{At: n.At, Code: api.ErrName}
			}
		}
	}
	return api.Fault{}
}

// plainResolve is what Resolve and Uses tell.
func plainResolve(u api.Unit, name string) ([]api.Slot, []api.Binding, []string, api.Fault) {
	if f := plainFault(u); f.Code != api.OK {
		return nil, nil, nil, f
	}
	x, ok := look(u, name)
	if !ok {
		return nil, nil, nil, api.Fault{Code: api.ErrNone}
	}
	if f := x.fault(u); f.Code != api.OK {
		return nil, nil, nil, f
	}
	bindings := make([]api.Binding, len(x.fn.Body))
	var uses []string
	for _, at := range x.walk {
		if n := x.fn.Body[at]; n.Kind == api.NName {
			b := x.stands(u, at)
			bindings[at] = b
			if b.Kind <= 2 && !slices.Contains(uses, n.Text) {
				uses = append(uses, n.Text)
			}
		}
	}
	for i, at := range x.declarations() {
		bindings[at] = api.Binding{Kind: 3, Index: len(x.fn.Params) + i, Type: x.fn.Body[at].Type}
	}
	return x.slots(), bindings, uses, api.Fault{}
}

// 11.2 to 11.4: units by chance, held against the plainest reckoning.
func TestAgainstThePlainestReckoning(t *testing.T) {
	count := map[api.Errno]int{}
	for seed := range 4000 {
		u, s := grown(t, seed)
		fault := plainFault(u)
		l, texts, f := names.File(u)
		same(t, s, f, fault)
		funcs, f := names.Funcs(u)
		same(t, s, f, fault)
		if fault.Code == api.OK {
			want, wantTexts := plainFile(u)
			same(t, s, all(l, texts, funcs), all(want, wantTexts, plainFuncs(u)))
		}
		for _, name := range []string{"f", "g", "h", "a"} {
			wantSlots, want, wantUses, wantFault := plainResolve(u, name)
			slots, bindings, f := names.Resolve(u, name)
			same(t, name+" of "+s, all(f, slots, bindings), all(wantFault, wantSlots, want))
			uses, f := names.Uses(u, name)
			same(t, name+" of "+s, all(f, uses), all(wantFault, wantUses))
			count[f.Code]++
		}
	}
	// Both right functions and each fault must come often enough to tell something.
	for code, least := range map[api.Errno]int{api.OK: 3000, api.ErrName: 500, api.ErrTwice: 1000, api.ErrNone: 1000} {
		if count[code] < least {
			t.Errorf("%v came %d times of %v", code, count[code], count)
		}
	}
}

// 11.2: files by chance, held against the plainest reckoning.
func TestFilesAgainstThePlainestReckoning(t *testing.T) {
	count := map[api.Errno]int{}
	for seed := range 4000 {
		g := &grower{chance: chance(seed*6007 + 3)}
		s := g.file(seed%2 == 0)
		u := unit(t, s)
		g.scatter(&u)
		fault := plainFault(u)
		l, texts, f := names.File(u)
		same(t, s, f, fault)
		funcs, f := names.Funcs(u)
		same(t, s, f, fault)
		if fault.Code == api.OK {
			want, wantTexts := plainFile(u)
			same(t, s, all(l, texts, funcs), all(want, wantTexts, plainFuncs(u)))
		}
		count[f.Code]++
	}
	for _, code := range []api.Errno{api.OK, api.ErrTwice, api.ErrType, api.ErrLong} {
		if count[code] < 200 {
			t.Errorf("%v came %d times of %v", code, count[code], count)
		}
	}
}
