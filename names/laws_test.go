package names_test

import (
	"slices"
	"strconv"
	"strings"
	"testing"

	"catapult/api"
	"catapult/names"
	"catapult/tree"
)

// withFunction is a unit with another function in place of that of its name with a body.
func withFunction(u api.Unit, x api.Func) api.Unit {
	u.Funcs = slices.Clone(u.Funcs)
	for i, y := range u.Funcs {
		if y.Name == x.Name && len(y.Body) > 0 {
			u.Funcs[i] = x
		}
	}
	return u
}

// withBody is a unit with another body in place of that of a function.
func withBody(u api.Unit, x api.Func, body api.Tree) api.Unit {
	x.Body = body
	return withFunction(u, x)
}

// rightOnes goes over functions by chance that are right, with what they resolve to.
func rightOnes(t *testing.T, least int, each func(c *chance, u api.Unit, x looked, slots []api.Slot, l []api.Binding)) {
	t.Helper()
	n := 0
	for seed := range 1500 {
		u, s := grown(t, seed)
		c := chance(seed*31 + 1)
		for _, name := range []string{"f", "g", "h"} {
			slots, l, f := names.Resolve(u, name)
			if f.Code != api.OK {
				continue
			}
			x, ok := look(u, name)
			same(t, s, ok, true)
			n++
			each(&c, u, x, slots, l)
		}
	}
	if n < least {
		t.Errorf("%d right functions", n)
	}
}

// renamed is a function with another name for one of its slots, where it is declared and wherever something stands for it.
func (x looked) renamed(l []api.Binding, slot int, name string) api.Func {
	y := x.fn
	y.Params, y.Body = slices.Clone(y.Params), slices.Clone(y.Body)
	if slot < len(y.Params) {
		y.Params[slot].Name = name
	}
	for at, b := range l {
		if b.Kind == api.NameSlot && b.Index == slot {
			y.Body[at].Text = name
		}
	}
	return y
}

// scopeOf is the place of the node in whose scope a slot is declared.
func (x looked) scopeOf(slot int) int {
	if slot < len(x.fn.Params) {
		return x.last()
	}
	return x.around(x.declarations()[slot-len(x.fn.Params)])[0]
}

// names tells whether a name stands or is declared anywhere within a scope.
func (x looked) names(name string, scope int) bool {
	for _, n := range x.fn.Body[x.from(scope) : scope+1] {
		if (n.Kind == api.NName || n.Kind == api.NDecl) && n.Text == name {
			return true
		}
	}
	return scope == x.last() && slices.ContainsFunc(x.fn.Params, func(v api.Var) bool { return v.Name == name })
}

// 11.5: a local renamed, where no scope sees two of the new name: the same but for the slot's name.
func TestRenamed(t *testing.T) {
	fresh, old := 0, 0
	rightOnes(t, 2000, func(c *chance, u api.Unit, x looked, slots []api.Slot, l []api.Binding) {
		for slot := range slots {
			for _, name := range []string{"fresh", of(c, "a", "b", "c", "exit", "f", "g", "getchar"), slots[c.below(len(slots))].Name} {
				if x.names(name, x.scopeOf(slot)) {
					continue
				}
				want := slices.Clone(slots)
				want[slot].Name = name
				v := withFunction(u, x.renamed(l, slot, name))
				gotSlots, got, f := names.Resolve(v, x.fn.Name)
				same(t, all(x.fn, slot, name), all(gotSlots, got, f), all(want, l, api.Fault{}))
				if name == "fresh" {
					fresh++
				} else {
					old++
				}
			}
		}
	})
	if fresh < 5000 || old < 3000 {
		t.Errorf("%d slots renamed to a new name, %d to an old one", fresh, old)
	}
}

// shifted is what bindings are, once so many slots are put in from one on (taken away, if below 0).
func shifted(l []api.Binding, from, by int) []api.Binding {
	l = slices.Clone(l)
	for i, b := range l {
		if b.Kind == api.NameSlot && b.Index >= from {
			l[i].Index += by
		}
	}
	return l
}

// ahead is how many slots are declared ahead of a place.
func (x looked) ahead(at int) int {
	n := len(x.fn.Params)
	for _, d := range x.declarations() {
		if d < at {
			n++
		}
	}
	return n
}

// 11.6: an inner block or for made empty: all else stands for what it stood for.
func TestInnerScopesTellNothing(t *testing.T) {
	count := 0
	rightOnes(t, 2000, func(_ *chance, u api.Unit, x looked, slots []api.Slot, l []api.Binding) {
		for at, n := range x.fn.Body[:x.last()] {
			if n.Kind != api.NBlock && n.Kind != api.NFor {
				continue
			}
			from := x.from(at)
			first, gone := x.ahead(from), x.ahead(at)-x.ahead(from)
			v := withBody(u, x.fn, slices.Concat(x.fn.Body[:from], api.Tree{{Kind: api.NBlock}}, x.fn.Body[at+1:]))
			gotSlots, got, f := names.Resolve(v, x.fn.Name)
			want := shifted(slices.Concat(l[:from], []api.Binding{{}}, l[at+1:]), first, -gone)
			wantSlots := slices.Concat(slots[:first], slots[first+gone:])
			same(t, all(x.fn, at), all(gotSlots, got, f), all(wantSlots, want, api.Fault{}))
			if gone > 0 {
				count++
			}
		}
	})
	if count < 1000 {
		t.Errorf("%d scopes with slots", count)
	}
}

// declaring is a block, or a for, that declares names, and how many.
func declaring(t *testing.T, c *chance) (api.Tree, int) {
	t.Helper()
	number := api.Tree{{Kind: api.NInt, Type: "i", Int: 1}}
	var l []api.Tree
	for _, name := range []string{"a", "b", "c", "d", "x", "y", "f", "exit"} {
		l = append(l, api.Tree{{Kind: api.NDecl, Type: of(c, api.Type("pc"), "u"), Text: name, Int: c.below(2)}})
	}
	n := len(l)
	inner, e := tree.Build(api.Node{Kind: api.NBlock}, l...)
	same(t, "built", e, api.OK)
	if c.one(2) {
		return inner, n
	}
	none := api.Tree{{Kind: api.NNone}}
	outer, e := tree.Build(api.Node{Kind: api.NFor}, l[c.below(n)], number, none, inner)
	same(t, "built", e, api.OK)
	return outer, n + 1
}

// 11.6: an inner block or for put in that declares all names: all else stands for what it stood for.
func TestNewScopesTellNothing(t *testing.T) {
	rightOnes(t, 2000, func(c *chance, u api.Unit, x looked, slots []api.Slot, l []api.Binding) {
		for at, n := range x.fn.Body {
			if n.Kind != api.NBlock || len(slots)+9 > api.MaxVars {
				continue
			}
			// It is put ahead of one of the block's parts, or behind them all.
			i, from := c.below(n.N+1), at
			if i < n.N {
				from = x.from(x.parts[at][i])
			}
			inner, more := declaring(t, c)
			body := slices.Concat(x.fn.Body[:from], inner, x.fn.Body[from:])
			body[at+len(inner)].N++
			gotSlots, got, f := names.Resolve(withBody(u, x.fn, body), x.fn.Name)
			same(t, all(x.fn, at), f, api.Fault{})
			first := x.ahead(from)
			same(t, all(x.fn, at), all(gotSlots[:first], gotSlots[first+more:]), all(slots[:first], slots[first:]))
			same(t, all(x.fn, at), all(got[:from], got[from+len(inner):]), all(l[:from], shifted(l[from:], first, more)))
		}
	})
}

// 11.7: as many slots as parameters and NDecls, each of which is a slot's.
func TestAsManySlots(t *testing.T) {
	rightOnes(t, 2000, func(_ *chance, _ api.Unit, x looked, slots []api.Slot, l []api.Binding) {
		n, e := tree.Count(x.fn.Body, api.NDecl)
		same(t, all(x.fn), all(len(slots), e), all(len(x.fn.Params)+n, api.OK))
		var told []int
		for i := range x.fn.Params {
			told = append(told, i)
		}
		for at, node := range x.fn.Body {
			if node.Kind == api.NDecl {
				told = append(told, l[at].Index)
			}
		}
		slices.Sort(told)
		for i, slot := range told {
			same(t, all(x.fn), slot, i)
			same(t, all(x.fn), slots[i].Param, i < len(x.fn.Params))
		}
	})
}

// roomy is a list with room behind it, which may be written to, too.
func roomy[T any](l []T) []T { return append(append(make([]T, 0, len(l)+3), l...), *new(T))[:len(l)] }

// roomyUnit is a unit all of whose lists have room behind them.
func roomyUnit(u api.Unit) api.Unit {
	u = api.Unit{Structs: roomy(u.Structs), Globals: roomy(u.Globals), Funcs: roomy(u.Funcs)}
	for i := range u.Funcs {
		u.Funcs[i].Params, u.Funcs[i].Body = roomy(u.Funcs[i].Params), roomy(u.Funcs[i].Body)
	}
	return u
}

// wipe writes over a unit's functions and globals, and what stands behind them.
func wipe(u api.Unit) {
	wipeFuncs(u.Funcs)
	clear(u.Globals[:cap(u.Globals)])
	clear(u.Structs[:cap(u.Structs)])
}

// wipeFuncs writes over functions.
func wipeFuncs(l []api.Func) {
	for _, x := range l {
		clear(x.Params[:cap(x.Params)])
		clear(x.Body[:cap(x.Body)])
	}
	clear(l[:cap(l)])
}

// R4: what is handed in is not written to, and may be written over later; what is answered is new memory.
func TestOwnMemory(t *testing.T) {
	for seed := range 300 {
		u, s := grown(t, seed)
		v := roomyUnit(u)
		before := all(v, v.Structs[:cap(v.Structs)], v.Globals[:cap(v.Globals)], v.Funcs[:cap(v.Funcs)])
		l, texts, _ := names.File(v)
		funcs, _ := names.Funcs(v)
		slots, bindings, _ := names.Resolve(v, "f")
		uses, _ := names.Uses(v, "f")
		same(t, s, all(v, v.Structs[:cap(v.Structs)], v.Globals[:cap(v.Globals)], v.Funcs[:cap(v.Funcs)]), before)
		was := all(l, texts, funcs, slots, bindings, uses)
		wipe(v)
		same(t, s, all(l, texts, funcs, slots, bindings, uses), was)
		before = everyCall(u, "f")
		funcs, _ = names.Funcs(u)
		other, _ := names.Funcs(u)
		was = all(other)
		wipeFuncs(funcs)
		clear(l[:cap(l)])
		clear(texts[:cap(texts)])
		clear(slots[:cap(slots)])
		clear(bindings[:cap(bindings)])
		clear(uses[:cap(uses)])
		same(t, s, all(other), was)
		same(t, s, everyCall(u, "f"), before)
	}
}

// R3: an error alone, in all calls.
func TestErrorsAlone(t *testing.T) {
	for seed := range 1500 {
		u, s := grown(t, seed)
		l, texts, f1 := names.File(u)
		funcs, f2 := names.Funcs(u)
		slots, bindings, f3 := names.Resolve(u, "g")
		uses, f4 := names.Uses(u, "g")
		same(t, s, all(f2, f4), all(f1, f3))
		if f1.Code != api.OK {
			same(t, s, all(l == nil, texts == nil, funcs == nil, f3), all(true, true, true, f1))
		}
		if f3.Code != api.OK {
			same(t, s, all(slots == nil, bindings == nil, uses == nil), all(true, true, true))
		}
		for _, f := range []api.Fault{f1, f3} {
			if f.Code == api.OK {
				same(t, s, f, api.Fault{})
			}
		}
	}
}

// R5: the same in any order of calls; places are told, and change nothing else.
func TestAnswersHangOnArgumentsAlone(t *testing.T) {
	var there []string
	for seed := range 500 {
		u, _ := grown(t, seed)
		there = append(there, everyCall(u, "h"))
	}
	for seed := 499; seed >= 0; seed-- {
		u, s := grown(t, seed)
		same(t, s, everyCall(u, "h"), there[seed])
		_, l, f := names.Resolve(u, "h")
		c := chance(seed)
		c.scatter(&u)
		_, again, f2 := names.Resolve(u, "h")
		same(t, s, all(again, f2.Code), all(l, f.Code))
	}
}

// spoiled is a unit with something in it that may be wrong.
func (c *chance) spoiled(u api.Unit) api.Unit {
	ints := []int{-1 << 63, -1, 0, 1, 2, 3, 21, 22, 26, 33, 1 << 20, 1<<63 - 1}
	texts := []string{"", "a", "1", "getchar", "é", "f", "int", strings.Repeat("a", 40)}
	codes := []api.Type{"", "i", "v", "f()i", "x", "f(", "Snone;", "a2:i"}
	for range 1 + c.below(2) {
		f := &u.Funcs[c.below(len(u.Funcs))]
		switch c.below(7) {
		case 0:
			f.Name, f.At = of(c, texts...), of(c, f.At, of(c, ints...))
		case 1:
			f.Type = of(c, codes...)
		case 2:
			f.Params = append(f.Params, api.Var{Name: of(c, texts...), Type: of(c, codes...)})
		case 3:
			u.Globals = append(u.Globals, api.Global{Var: api.Var{Name: of(c, texts...), Type: of(c, codes...)}})
		default:
			if len(f.Body) > 0 {
				n := &f.Body[c.below(len(f.Body))]
				if c.one(2) {
					*of(c, &n.Kind, &n.N, &n.Int, &n.At) = of(c, ints...)
				} else if n.Text != "" {
					n.Text = of(c, texts...)
				}
			}
		}
	}
	return u
}

// P1, R1: every call answers, whatever it is handed; what is not right is told as tree.CheckUnit does.
func TestEveryCallAnswers(t *testing.T) {
	wrong := 0
	for seed := range 3000 {
		u, s := grown(t, seed)
		c := chance(seed*17 + 3)
		u = c.spoiled(u)
		f := tree.CheckUnit(u)
		if f.Code != api.OK {
			wrong++
			same(t, s, everyCall(u, "f"), all("[]", "[]", f, "[]", f, "[]", "[]", f, "[]", f))
			continue
		}
		wantSlots, want, wantUses, wantFault := plainResolve(u, "f")
		slots, bindings, fault := names.Resolve(u, "f")
		uses, fault2 := names.Uses(u, "f")
		same(t, s, all(slots, bindings, fault, uses, fault2), all(wantSlots, want, wantFault, wantUses, wantFault))
	}
	if wrong < 1000 || wrong > 2500 {
		t.Errorf("%d of 3000 units are not right", wrong)
	}
	none, empty := api.Unit{}, api.Unit{Structs: []api.Struct{}, Globals: []api.Global{}, Funcs: []api.Func{}}
	for _, u := range []api.Unit{none, empty} {
		same(t, "no unit", everyCall(u, ""), all("[]", "[]", api.Fault{}, "[]", api.Fault{}, "[]", "[]", api.Fault{Code: api.ErrNone}, "[]", api.Fault{Code: api.ErrNone}))
	}
}

// P1: a function as long and as deep as it may be.
func TestGreatFunctions(t *testing.T) {
	deep := strings.Repeat("{ int a; ", 45) + "a; " + strings.Repeat("a; } ", 45)
	u := unit(t, "int f() { "+deep+"}")
	slots, l, f := names.Resolve(u, "f")
	same(t, "deep", all(f, len(slots)), all(api.Fault{}, 45))
	told := strings.Fields(toldNames(u.Funcs[0].Body, l))
	same(t, "deep", all(told[45], told[46], told[90]), all("a:s44", "a:s44", "a:s0"))
	wide := "int f(int a) { " + strings.Repeat("a; ", 2047) + "}"
	u = unit(t, wide)
	_, l, f = names.Resolve(u, "f")
	same(t, "wide", all(f, len(l), l[0], l[4092]), all(api.Fault{}, 4095, "{3 0 i}", "{3 0 i}"))
	for i := range 255 {
		x := u.Funcs[0]
		x.Name = "k" + strconv.Itoa(i%100)
		if i >= 100 {
			x.Body = nil
		}
		u.Funcs = append(u.Funcs, x)
	}
	funcs, f := names.Funcs(u)
	same(t, "many", all(f, len(funcs)), all(api.Fault{}, 101))
	_, l, f = names.Resolve(u, "k99")
	same(t, "many", all(f, len(l)), all(api.Fault{}, 4095))
}
