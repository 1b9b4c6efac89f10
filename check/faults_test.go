package check_test

import (
	"slices"
	"strings"
	"testing"

	"catapult/api"
	"catapult/check"
	"catapult/names"
	"catapult/tree"
)

// 13.1: names.File's fault ahead of all others, which may be tree.CheckUnit's.
func TestFileFirst(t *testing.T) {
	for s, want := range map[string]string{
		"int main() { return none; } int x = none; int x;": "42 6",
		"int x = none; int main; int main() { return 0; }": "24 6",
		"int setjmp; int x = none;":                        "0 6",
		"int f(int a); char f(int a); int x = none;":       "14 131",
		"int f() { none; } int f() { }":                    "18 6",
	} {
		u := unit(t, s)
		_, _, f := names.File(u)
		same(t, s, fault(t, s), all(f.At, int(f.Code)))
		same(t, s, fault(t, s), want)
	}
	c, f := check.Unit(api.Unit{Globals: make([]api.Global, api.MaxVars+1)})
	same(t, "too many globals", all(c, f), all(api.Core{}, api.Fault{Code: api.ErrLong}))
	c, f = check.Unit(api.Unit{Structs: []api.Struct{{Name: "s"}}})
	same(t, "a struct without members", all(c, f), all(api.Core{}, api.Fault{Code: api.ErrShape}))
	c, f = check.Unit(api.Unit{Funcs: []api.Func{{Name: "main", Type: "f()i", Body: api.Tree{{Kind: api.NBlock, N: 1}}}}})
	same(t, "a body that is no tree", all(c, f), all(api.Core{}, api.Fault{Code: api.ErrTree}))
	_, f = check.Unit(api.Unit{})
	same(t, "nothing", f, api.Fault{Code: api.ErrMain})
}

// 13.1: globals come ahead of functions, these in order, main last; names ahead of types, a function's own faults together.
func TestOrder(t *testing.T) {
	for s, want := range map[string]string{
		"int f() { return none; } int x = nobody;":        "33 130",
		"int x = nobody; int y = nil;":                    "8 130",
		"int x = &y; int y = nobody;":                     "8 131",
		"int x = 1 / 0 + y; int y;":                       "8 133",
		"int x = 1; int y = x;":                           "19 133",
		"int x[2] = {&1, none};":                          "12 132",
		"int x[2] = {0, none + &1};":                      "15 130",
		"int x[2] = {1, &1 + none};":                      "20 130",
		"int f() { return &1; } int g() { return none; }": "17 132",
		"int f() { &1; return none; } int g() { none; }":  "21 130",
		"int f() { return 0; } int g() { return &1; }":    "39 132",
		"int f() { &1; int f; int f; }":                   "25 6",
		"int f() { -f; *f; } int main(int a) { }":         "10 131",
		"int f() { return 0; }":                           "0 136",
		"int main(int a) { return 0; }":                   "0 136",
		"void main() { }":                                 "0 136",
		"char main() { return 0; }":                       "0 136",
		"int main();":                                     "0 136",
		"int main;":                                       "0 136",
		"int (*main)(void);":                              "0 136",
		"int g(); int f() { return -&1; } int g() { return -h(); } void h() { }":      "50 131",
		"int main() { { int x; } x; }":                                                "24 130",
		"int main() { int x = 1; { x = none; } x = &1; }":                             "30 130",
		"int main() { struct none x = &1; return 0; }":                                "29 132",
		"int main() { struct none x; none; }":                                         "28 130",
		"int main() { struct none x; x; return &1; }":                                 "25 4",
		"int main() { if (main) { 1 = 2; } return &1; }":                              "25 132",
		"int main() { if (exit(1)) { 1 = 2; } return 0; }":                            "28 132",
		"int main() { while (exit(1)) break; break; return 0; }":                      "13 131",
		"int main() { do 1 = 2; while (&1); return 0; }":                              "16 132",
		"int main() { switch (exit(1)) { case main: ; } return 0; }":                  "37 133",
		"int main() { for (1 = 2; &1; ) ; }":                                          "18 132",
		"int main() { switch (1) { case 1: 1 = 2; case 1: ; } return 0; }":            "34 132",
		"int main() { switch (1) { case 1: case 1: 1 = 2; } return 0; }":              "42 132",
		"int main() { switch (1) { case main: 1 = 2; } return 0; }":                   "31 133",
		"int main() { case 1: break; }":                                               "21 134",
		"int main() { case main: break; }":                                            "18 133",
		"int f(void); int x = f(); int main() { return 0; }":                          "21 130",
		"int f(void); int main() { return sizeof f(); }":                              "40 130",
		"int f(void); int main() { int (*f)(void) = main; return f(); } int x = f();": "71 130",
	} {
		same(t, s, fault(t, s), want)
	}
	core(t, "int f(void); int main() { int (*f)(void) = main; return f(); }")
	core(t, "int g(int); int main() { return g(1); } int g(int a) { return a; } int unused(char *); int x; int x2; void other(void);")
	core(t, "int main(void); int main() { return main(); } int main(void);")
}

// 13.2: what Expr tells is wrong, in order.
func TestExprFaults(t *testing.T) {
	good := unit(t, "int x; int f(int a) { return a; } int none(void);")
	slot := func(name string, typed api.Type) api.Slot { return api.Slot{Name: name, Type: typed} }
	leaf := func(n api.Node) api.Tree { return api.Tree{n} }
	x := expr(t, "x")
	wrong := api.Tree{{Kind: api.NName, Text: "1"}}
	for _, r := range []struct {
		u     api.Unit
		slots []api.Slot
		t     api.Tree
		want  api.Fault
	}{
		{unit(t, "int x; int x;"), make([]api.Slot, 257), wrong, api.Fault{At: 7, Code: api.ErrTwice}},
		{good, make([]api.Slot, 257), wrong, api.Fault{Code: api.ErrLong}},
		{good, make([]api.Slot, 256), wrong, api.Fault{Code: api.ErrForm}},
		{good, slices.Repeat([]api.Slot{slot("x", "i")}, 256), x, api.Fault{}},
		{good, []api.Slot{slot("a", "i"), slot("b", "St;")}, wrong, api.Fault{At: 1, Code: api.ErrNone}},
		{good, []api.Slot{slot("a", "i"), slot("b", "x")}, wrong, api.Fault{At: 1, Code: api.ErrForm}},
		{good, []api.Slot{slot("a", "i"), slot("1", "x")}, wrong, api.Fault{At: 1, Code: api.ErrForm}},
		{good, []api.Slot{slot("a", "i"), slot("b", "a0:i")}, wrong, api.Fault{At: 1, Code: api.ErrShape}},
		{good, []api.Slot{slot("a", "i"), slot("b", "a65536:i")}, wrong, api.Fault{At: 1, Code: api.ErrLong}},
		{good, []api.Slot{slot("a", "i"), slot("b", "v")}, wrong, api.Fault{At: 1, Code: api.ErrShape}},
		{good, []api.Slot{slot("a", "i"), slot("b", "f()i")}, wrong, api.Fault{At: 1, Code: api.ErrShape}},
		{good, []api.Slot{slot("a", "i"), slot("", "i"), slot("b", "v")}, wrong, api.Fault{At: 1, Code: api.ErrShape}},
		{good, []api.Slot{slot("int", "i")}, wrong, api.Fault{Code: api.ErrShape}},
		{good, []api.Slot{slot(strings.Repeat("a", 32), "i")}, wrong, api.Fault{Code: api.ErrShape}},
		{good, nil, wrong, api.Fault{Code: api.ErrTree}},
		{good, nil, nil, api.Fault{Code: api.ErrTree}},
		{good, nil, make(api.Tree, 4097), api.Fault{Code: api.ErrLong}},
		{good, nil, leaf(api.Node{Kind: api.NBlock}), api.Fault{Code: api.ErrShape}},
		{good, nil, leaf(api.Node{Kind: api.NNone}), api.Fault{Code: api.ErrShape}},
		{good, nil, leaf(api.Node{Kind: api.NReturn}), api.Fault{Code: api.ErrShape}},
		{good, nil, append(expr(t, "none2"), api.Node{Kind: api.NExpr, N: 1}), api.Fault{Code: api.ErrShape}},
		{good, nil, expr(t, "&1 + y + z"), api.Fault{At: 5, Code: api.ErrName}},
		{good, nil, expr(t, "x + &1"), api.Fault{At: 4, Code: api.ErrLvalue}},
		{good, nil, expr(t, "none()"), api.Fault{At: 0, Code: api.ErrName}},
		{good, nil, expr(t, "x + getchar"), api.Fault{At: 4, Code: api.ErrName}},
		{good, []api.Slot{slot("j", "j")}, expr(t, "setjmp(j)"), api.Fault{Code: api.ErrSetjmp}},
		{good, []api.Slot{slot("j", "j")}, expr(t, "!setjmp(j)"), api.Fault{At: 1, Code: api.ErrSetjmp}},
		{good, []api.Slot{slot("j", "j")}, expr(t, "setjmp(j) == 0"), api.Fault{Code: api.ErrSetjmp}},
		{good, []api.Slot{slot("j", "j")}, expr(t, "(void)setjmp(j)"), api.Fault{At: 6, Code: api.ErrSetjmp}},
		{good, []api.Slot{slot("setjmp", "pf(i)i")}, expr(t, "setjmp(x)"), api.Fault{}},
	} {
		got, f := check.Expr(r.u, r.slots, r.t)
		same(t, all(r.slots, r.t), f, r.want)
		same(t, all(r.slots, r.t), len(got) > 0, r.want == api.Fault{})
	}
}

// 13.2: a name stands for the last slot that has it, ahead of the file and of what is built in; strings are numbered from 0 on; no main is asked for.
func TestExprNames(t *testing.T) {
	u := unit(t, `char *x = "a"; int y; int f(int a) { return a; } int g(void) { return "b"[0]; }`)
	l := []api.Slot{{Name: "y", Type: "c"}, {Name: "x", Type: "c"}, {Name: "x", Type: "pi"}, {Name: "f", Type: "u", Volatile: true}, {Name: "getchar", Type: "s", Param: true}, {Name: "y", Type: "pu"}}
	got, f := check.Expr(u, l, expr(t, `x, f, getchar, y, g(), "c", "d"`))
	same(t, "names", f, api.Fault{})
	var numbers []int
	for _, n := range got {
		if n.Kind == api.KLocal || n.Kind == api.KString {
			numbers = append(numbers, n.Int)
		}
	}
	same(t, "names", all(numbers), all([]int{2, 3, 4, 5, 0, 1}))
	got, f = check.Expr(u, nil, expr(t, "f(y) + getchar()"))
	same(t, "names of the file", all(told(got, nil, false), f), all("(add:i (call:i @f (load:i &y)) built-getchar:i)", api.Fault{}))
}

// 13.1, 13.2: what stands for nothing is told as tree.Walk goes: what comes first in the text is not always so in the list of nodes.
func TestWalkedNames(t *testing.T) {
	u := unit(t, "int x; int main() { return 0; }")
	x := expr(t, "x + none * (nil - x)")
	for i := range x {
		x[i].At = 100 - i
	}
	_, f := check.Expr(u, nil, x)
	same(t, "names", f, api.Fault{At: 99, Code: api.ErrName})
	deep := append(slices.Repeat(api.Tree{{Kind: api.NName, At: 3, Text: "x"}}, 1), slices.Repeat(api.Tree{{Kind: api.NUnary, N: 1, At: 1, Text: "!"}}, 47)...)
	same(t, "a deep tree", tree.Check(deep), api.OK)
	got, f := check.Expr(u, nil, deep)
	same(t, "a deep tree", all(f, len(got)), all(api.Fault{}, 49))
}
