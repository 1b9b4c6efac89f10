package tree_test

import (
	"fmt"
	"slices"
	"strconv"
	"strings"
	"testing"

	"catapult/api"
	"catapult/tree"
	"catapult/types"
)

// variable is a global of a type, with its first values.
func variable(code string, init ...api.Tree) api.Global {
	return api.Global{Var: api.Var{Name: "g", Type: api.Type(code)}, Init: init}
}

// withGlobal is a unit of one global behind one that is right.
func withGlobal(g api.Global) api.Unit {
	return api.Unit{Structs: structs(), Globals: []api.Global{variable("i"), g}}
}

// withFunction is a unit of one function behind one that is right.
func withFunction(f api.Func) api.Unit {
	return api.Unit{Structs: structs(), Funcs: []api.Func{{Name: "f", Type: "f()v"}, f}}
}

// 9.1, CheckUnit: units that are right.
func TestRightUnits(t *testing.T) {
	long := strings.Repeat("n", 31)
	for _, u := range []api.Unit{
		{}, {Structs: structs()}, withGlobal(variable("St;", number(1, "i"))), withGlobal(variable("a3:Sf;")), withGlobal(variable("pSnone;")), withGlobal(variable("j")), withGlobal(variable("pf()v")),
		withGlobal(api.Global{At: 65536, Var: api.Var{Name: long, Type: "a65536:c", Volatile: true}, Init: slices.Repeat([]api.Tree{name("a")}, 4096)}),
		withFunction(api.Func{At: 65536, Name: long, Type: "f(pSnone;)pSt;", Params: []api.Var{{Type: "pSnone;"}}}),
		withFunction(api.Func{Name: "f", Type: "f(i,u)v", Params: []api.Var{{Name: "a", Type: "i"}, {Name: "a", Type: "u", Volatile: true}}, Body: empty()}),
		withFunction(api.Func{Name: "f", Type: "f(i,u)v", Params: []api.Var{{Type: "i"}, {Name: "b", Type: "u"}}}),
		withFunction(api.Func{Name: "g", Type: "f(i,i,i,i,i,i,i,i)i", Params: slices.Repeat([]api.Var{{Name: "x", Type: "i"}}, 8), Body: node(api.NBlock, "", least(api.NDecl))}),
	} {
		same(t, all(u), all(tree.CheckUnit(u), plainUnit(u)), all(api.Fault{}, api.Fault{}))
	}
}

// 9.1, CheckUnit: globals that are not right, and how.
func TestWrongGlobals(t *testing.T) {
	second := func(e api.Errno) api.Fault { return api.Fault{At: 1, Code: e} }
	for _, code := range []string{"", "v", "f()v", "f(i)i", "x", "Snone;", "a2:Snone;", "a0:i", "a2:v", "pf(v)v", "a65537:c", "a32769:s", "pa8193:St;", strings.Repeat("p", 48) + "i", "S t;"} {
		u := withGlobal(variable(code))
		same(t, code, all(tree.CheckUnit(u), plainUnit(u)), all(second(api.ErrTree), second(api.ErrTree)))
	}
	for _, s := range []string{"", "1", "int", "a b", strings.Repeat("n", 32), "é", "*"} {
		same(t, s, tree.CheckUnit(withGlobal(api.Global{Var: api.Var{Name: s, Type: "i"}})), second(api.ErrTree))
	}
	for _, at := range []int{-1, 65537, -1 << 63, 1<<63 - 1} {
		same(t, strconv.Itoa(at), tree.CheckUnit(withGlobal(api.Global{At: at, Var: api.Var{Name: "a", Type: "i"}})), second(api.ErrTree))
	}
	for _, x := range []api.Tree{nil, empty(), nothing(), least(api.NDecl), least(api.NExpr), node(api.NBlock, "", node(api.NBlock, "")), name("1"), append(name("a"), name("b")...)} {
		same(t, all(x), tree.CheckUnit(withGlobal(variable("i", x))), second(api.ErrTree))
		same(t, all(x), tree.CheckUnit(withGlobal(variable("a3:i", name("a"), x, chain(60)))), second(api.ErrTree))
	}
	for _, x := range []api.Tree{chain(48), make(api.Tree, 4097)} {
		same(t, "too much", tree.CheckUnit(withGlobal(variable("i", x))), second(api.ErrLong))
		same(t, "too much", tree.CheckUnit(withGlobal(variable("a3:i", name("a"), x, empty()))), second(api.ErrLong))
	}
	many := slices.Repeat([]api.Tree{empty()}, 4097)
	same(t, "too many", tree.CheckUnit(withGlobal(variable("a5000:i", many...))), second(api.ErrLong))
	same(t, "too many of no type", tree.CheckUnit(withGlobal(variable("v", many...))), second(api.ErrTree))
	same(t, "too many, at no place", tree.CheckUnit(withGlobal(api.Global{At: -1, Var: api.Var{Name: "a", Type: "i"}, Init: many})), second(api.ErrTree))
	same(t, "the most, and wrong", tree.CheckUnit(withGlobal(variable("a5000:i", many[:4096]...))), second(api.ErrTree))
}

// 9.1, CheckUnit: functions that are not right, and how.
func TestWrongFunctions(t *testing.T) {
	second := func(e api.Errno) api.Fault { return api.Fault{At: 1, Code: e} }
	i := func(names ...string) []api.Var {
		var l []api.Var
		for _, s := range names {
			l = append(l, api.Var{Name: s, Type: "i"})
		}
		return l
	}
	for _, body := range []api.Tree{nil, empty()} {
		for _, f := range []api.Func{
			{Name: "f", Type: "i"}, {Name: "f", Type: ""}, {Name: "f", Type: "pf()v"}, {Name: "f", Type: "f(v)v", Params: []api.Var{{Name: "a", Type: "v"}}}, {Name: "f", Type: "f()j"}, {Name: "f", Type: "f()Snone;"}, {Name: "f", Type: "f()St;"}, {Name: "f", Type: "f()pa0:i"}, {Name: "f", Type: "a2:f()v"}, {Name: "f", Type: "f(St;)v", Params: []api.Var{{Name: "a", Type: "St;"}}}, {Name: "f", Type: "f()"},
			{Name: "f", Type: api.Type("f(" + strings.Repeat("i,", 8) + "i)v"), Params: i("a", "b", "c", "d", "e", "f", "g", "h", "i")},
			{Name: "", Type: "f()v"}, {Name: "int", Type: "f()v"}, {Name: "1", Type: "f()v"}, {Name: strings.Repeat("n", 32), Type: "f()v"},
			{Name: "f", Type: "f()v", At: -1}, {Name: "f", Type: "f()v", At: 65537},
			{Name: "f", Type: "f()v", Params: i("a")}, {Name: "f", Type: "f(i)v"}, {Name: "f", Type: "f(i,i)v", Params: i("a")}, {Name: "f", Type: "f(i)v", Params: i("a", "b")},
			{Name: "f", Type: "f(u)v", Params: i("a")}, {Name: "f", Type: "f(i,pc)v", Params: i("a", "b")}, {Name: "f", Type: "f(i)v", Params: []api.Var{{Name: "a"}}},
			{Name: "f", Type: "f(i)v", Params: i("1")}, {Name: "f", Type: "f(i)v", Params: i("int")}, {Name: "f", Type: "f(i,i)v", Params: i("a", "b c")}, {Name: "f", Type: "f(i,i)v", Params: i("a", strings.Repeat("n", 32))},
		} {
			f.Body = body
			u := withFunction(f)
			same(t, all(f), all(tree.CheckUnit(u), plainUnit(u)), all(second(api.ErrTree), second(api.ErrTree)))
		}
	}
	f := api.Func{Name: "f", Type: "f(i,i)v", Params: i("a", "")}
	same(t, "a prototype", tree.CheckUnit(withFunction(f)), api.Fault{})
	f.Body = empty()
	same(t, "no name", tree.CheckUnit(withFunction(f)), second(api.ErrTree))
	f.Params = i("a", "b")
	f.Params[1].Volatile = true
	same(t, "volatile", tree.CheckUnit(withFunction(f)), api.Fault{})
	f.Body = nil
	same(t, "a volatile one of a prototype", tree.CheckUnit(withFunction(f)), second(api.ErrTree))
	f.Params[1].Name = ""
	same(t, "a volatile one of a prototype, without a name", tree.CheckUnit(withFunction(f)), second(api.ErrTree))
}

// 9.1, CheckUnit: bodies.
func TestBodies(t *testing.T) {
	second := func(e api.Errno) api.Fault { return api.Fault{At: 1, Code: e} }
	deep := func(n int) api.Tree { return node(api.NBlock, "", node(api.NExpr, "", chain(n))) }
	bad := api.Func{Name: "f", Type: "f(i)v", Body: chain(60)}
	for _, x := range []api.Tree{name("a"), nothing(), least(api.NDecl), least(api.NExpr), least(api.NReturn), least(api.NIf), node(api.NBlock, "", name("a")), node(api.NBlock, "", nothing()), append(empty(), empty()...)} {
		u := withFunction(api.Func{Name: "f", Type: "f()v", Body: x})
		same(t, all(x), all(tree.CheckUnit(u), plainUnit(u)), all(second(api.ErrTree), second(api.ErrTree)))
	}
	for _, x := range []api.Tree{deep(46), chain(48), node(api.NExpr, "", chain(47)), make(api.Tree, 4097)} {
		same(t, all(len(x)), tree.CheckUnit(withFunction(api.Func{Name: "f", Type: "f()v", Body: x})), second(api.ErrLong))
	}
	same(t, "the deepest", tree.CheckUnit(withFunction(api.Func{Name: "f", Type: "f()v", Body: deep(45)})), api.Fault{})
	same(t, "parameters first", tree.CheckUnit(withFunction(bad)), second(api.ErrTree))
	same(t, "not empty, not nil", tree.CheckUnit(withFunction(api.Func{Name: "f", Type: "f()v", Body: api.Tree{}})), api.Fault{})
}

// 9.1, CheckUnit: too many, structs, globals, functions, in that order, the first of each.
func TestOrderOfFaults(t *testing.T) {
	var most []api.Struct
	for i := range 65 {
		most = append(most, api.Struct{Name: "s" + strconv.Itoa(i), Members: []api.Member{{Name: "a", Type: "i"}}})
	}
	g, f := variable("i"), api.Func{Name: "f", Type: "f()v"}
	u := api.Unit{Structs: most[:64], Globals: slices.Repeat([]api.Global{g}, 256), Funcs: slices.Repeat([]api.Func{f}, 256)}
	same(t, "the most", tree.CheckUnit(u), api.Fault{})
	for _, more := range []api.Unit{{Structs: most}, {Globals: slices.Repeat([]api.Global{g}, 257)}, {Funcs: slices.Repeat([]api.Func{f}, 257)}, {Structs: make([]api.Struct, 65)}, {Globals: make([]api.Global, 257)}, {Structs: make([]api.Struct, 1), Funcs: make([]api.Func, 257)}, {Globals: make([]api.Global, 1<<20)}} {
		same(t, "too many", tree.CheckUnit(more), api.Fault{Code: api.ErrLong})
	}
	u = api.Unit{Structs: most[:8], Globals: slices.Repeat([]api.Global{g}, 9), Funcs: slices.Repeat([]api.Func{f}, 9)}
	u.Funcs[7].Name = "7"
	same(t, "a function", tree.CheckUnit(u), api.Fault{At: 7, Code: api.ErrTree})
	u.Funcs[3].Body = chain(70)
	same(t, "the first one", tree.CheckUnit(u), api.Fault{At: 3, Code: api.ErrLong})
	u.Globals[8].Var.Type = "v"
	same(t, "a global", tree.CheckUnit(u), api.Fault{At: 8, Code: api.ErrTree})
	u.Globals[5].Init = []api.Tree{name("a"), chain(70)}
	same(t, "the first one", tree.CheckUnit(u), api.Fault{At: 5, Code: api.ErrLong})
	for code, s := range map[api.Errno]api.Struct{api.ErrForm: {Name: "1"}, api.ErrTwice: most[0], api.ErrShape: {Name: "x"}, api.ErrNone: {Name: "x", Members: []api.Member{{Name: "a", Type: "Sx;"}}}, api.ErrLong: {Name: "x", Members: []api.Member{{Name: "a", Type: "a20000:i"}}}} {
		u.Structs = append(most[:6:6], s, s)
		same(t, fmt.Sprint("a struct, ", code), all(tree.CheckUnit(u), types.Structs(u.Structs)), all(api.Fault{At: 6, Code: code}, api.Fault{At: 6, Code: code}))
	}
}

// 9.1: types of a unit know its structs; those within trees do not.
func TestStructsOfUnits(t *testing.T) {
	body := func(code string) api.Tree {
		return node(api.NBlock, "", node(api.NExpr, "", typed(api.NCast, code, name("a"))))
	}
	u := api.Unit{Structs: structs(), Globals: []api.Global{variable("St;", typed(api.NSizeT, "a60000:Snone;"))}, Funcs: []api.Func{{Name: "f", Type: "f()v", Body: body("a60000:St;")}}}
	same(t, "known later", tree.CheckUnit(u), api.Fault{})
	same(t, "known in the unit", all(types.Check("a60000:St;", u.Structs), tree.CheckUnit(api.Unit{Structs: structs(), Globals: []api.Global{variable("a60000:St;")}})), all(api.ErrLong, api.Fault{Code: api.ErrTree}))
	u.Structs = nil
	same(t, "unknown", tree.CheckUnit(u), api.Fault{Code: api.ErrTree})
	u.Globals = nil
	same(t, "unknown within trees", tree.CheckUnit(u), api.Fault{})
}

// spoiled is a unit with one thing changed.
func (c *chance) spoiled(u api.Unit) api.Unit {
	odd := api.Type(of(c, "v", "f()v", "f(i)i", "i", "pi", "Snone;", "x", "a0:i"))
	if n := len(u.Globals); n > 0 && c.below(2) == 0 {
		g := &u.Globals[c.below(n)]
		switch c.below(5) {
		case 0:
			g.At = of(c, -1, 65537)
		case 1:
			g.Var.Name = of(c, "", "1", "int")
		case 2:
			g.Var.Type = odd
		default:
			g.Init = append(g.Init, of(c, chain(48), c.tree(), c.wrong(c.tree()), nil))
		}
	} else if n := len(u.Funcs); n > 0 {
		f := &u.Funcs[c.below(n)]
		switch c.below(7) {
		case 0:
			f.At = of(c, -1, 65537)
		case 1:
			f.Name = of(c, "", "1", "int")
		case 2:
			f.Type = odd
		case 3:
			f.Params = append(f.Params, api.Var{Name: "x", Type: "i"})
		case 4:
			if len(f.Params) > 0 {
				p := &f.Params[c.below(len(f.Params))]
				*p = api.Var{Name: of(c, p.Name, p.Name, "", "1"), Type: of(c, p.Type, p.Type, odd), Volatile: c.below(2) == 0}
			}
		default:
			f.Body = of(c, chain(48), c.tree(), c.wrong(append(c.block(3), f.Body...)), nil)
		}
	} else {
		u.Structs = u.Structs[1:]
	}
	return u
}

// 9.1, CheckUnit: units by chance, right ones and such as are not.
func TestUnitsByChance(t *testing.T) {
	told := map[api.Errno]int{}
	for seed := range 3000 {
		c := chance(seed*1511 + 2)
		u := c.unit()
		same(t, all(u), tree.CheckUnit(u), api.Fault{})
		for range 1 + c.below(2) {
			u = c.spoiled(u)
		}
		f := tree.CheckUnit(u)
		told[f.Code]++
		same(t, all(u), f, plainUnit(u))
	}
	if told[api.OK] < 250 || told[api.ErrTree] < 500 || told[api.ErrLong] < 50 {
		t.Errorf("%v", told)
	}
}
