package names_test

import (
	"fmt"
	"strconv"
	"strings"
	"testing"

	"catapult/api"
	"catapult/names"
	"catapult/parse"
	"catapult/tree"
)

// all is values in a row, an empty list as none.
func all(l ...any) string { return strings.TrimSuffix(fmt.Sprintln(l...), "\n") }

// same holds what is told against what must be.
func same(t *testing.T, what string, got, want any) {
	t.Helper()
	if g, w := fmt.Sprint(got), fmt.Sprint(want); g != w {
		t.Fatalf("%.3000s:\n%.2000s, not\n%.2000s", what, g, w)
	}
}

// unit is a text read.
func unit(t *testing.T, s string) api.Unit {
	t.Helper()
	u, f := parse.Unit(s)
	same(t, s, f, api.Fault{})
	return u
}

// letter is a kind of what a name stands for, as a letter.
func letter(kind int) string { return strings.Split(". g f s b", " ")[kind] }

// toldSlots is slots in a row: volatile or param, if they are, the type, the name.
func toldSlots(slots []api.Slot) string {
	var l []string
	for _, x := range slots {
		s := ""
		if x.Volatile {
			s += "volatile "
		}
		if x.Param {
			s += "param "
		}
		l = append(l, s+string(x.Type)+" "+x.Name)
	}
	return strings.Join(l, ", ")
}

// toldNames is what the nodes of a body stand for, in a row: of each that stands for something its name (+ ahead of one that is declared), and the letter and number of it.
func toldNames(body api.Tree, l []api.Binding) string {
	var told []string
	for at, b := range l {
		if b == (api.Binding{}) {
			continue
		}
		s := body[at].Text + ":" + letter(b.Kind) + strconv.Itoa(b.Index)
		if body[at].Kind == api.NDecl {
			s = "+" + s
		}
		told = append(told, s)
	}
	return strings.Join(told, " ")
}

// bodyOf is the body of a function of a unit.
func bodyOf(u api.Unit, name string) api.Tree {
	for _, x := range u.Funcs {
		if x.Name == name && len(x.Body) > 0 {
			return x.Body
		}
	}
	return nil
}

// resolved is what Resolve tells of the function f of a text.
func resolved(t *testing.T, s string) string {
	t.Helper()
	u := unit(t, s)
	slots, l, f := names.Resolve(u, "f")
	body := bodyOf(u, "f")
	if f.Code != api.OK {
		return all("fault", f, len(slots), len(l))
	}
	same(t, s, len(l), len(body))
	return toldSlots(slots) + "; " + toldNames(body, l)
}

// 11.1: the built-in functions, in their order.
func TestBuilt(t *testing.T) {
	want := []api.Var{
		{Name: "getchar", Type: "f()i"}, {Name: "putchar", Type: "f(i)i"}, {Name: "exit", Type: "f(i)v"}, {Name: "setjmp", Type: "f(pj)i"}, {Name: "longjmp", Type: "f(pj,i)v"},
		{Name: "co_new", Type: "f(pf(i)i,i,i)i"}, {Name: "co_resume", Type: "f(i,i)i"}, {Name: "co_yield", Type: "f(i)i"}, {Name: "co_done", Type: "f(i)i"}, {Name: "co_free", Type: "f(i)v"},
	}
	got := names.Built()
	same(t, "Built", all(got), all(want))
	for i := range got {
		got[i] = api.Var{}
	}
	same(t, "Built once more", all(names.Built()), all(want))
}

// 11.1: Built's types are those of the declarations that stand in the text of the whole.
func TestBuiltAsDeclared(t *testing.T) {
	u := unit(t, "int getchar(void); int putchar(int); void exit(int); int setjmp(jmp_buf); void longjmp(jmp_buf, int); int co_new(int (*)(int), int, int); int co_resume(int, int); int co_yield(int); int co_done(int); void co_free(int);")
	for i, v := range names.Built() {
		same(t, v.Name, all(v.Name, v.Type, v.Volatile), all(u.Funcs[i].Name, u.Funcs[i].Type, false))
	}
}

// The chapter's examples.
func TestExamplesOfTheChapter(t *testing.T) {
	s := "int x; int f(int a) { int x = a; { int a = x; x = a; } return x; }"
	same(t, s, resolved(t, s), "param i a, i x, i a; a:s0 +x:s1 x:s1 +a:s2 x:s1 a:s2 x:s1")
	s = "int f(int a) { int a; }"
	same(t, s, resolved(t, s), all("fault", api.Fault{At: 19, Code: api.ErrTwice}, 0, 0))
	s = "int f(int a) { int y = y; }"
	same(t, s, resolved(t, s), all("fault", api.Fault{At: 23, Code: api.ErrName}, 0, 0))
	s = "int f(int a) { int y = y; } int y;"
	same(t, s, resolved(t, s), "param i a, i y; y:g0 +y:s1")
}

// 11.1: tree.CheckUnit's fault first, in all calls, ahead of all that the names tell.
func TestUnitsFaultFirst(t *testing.T) {
	leaf := func(n api.Node) api.Tree { return api.Tree{n} }
	block := leaf(api.Node{Kind: api.NBlock})
	twice := []api.Global{{At: 7, Var: api.Var{Name: "g", Type: "i"}}, {At: 9, Var: api.Var{Name: "g", Type: "i"}}}
	f := api.Func{Name: "f", Type: "f()i", Body: block}
	long := make([]api.Struct, api.MaxFields+1)
	for _, x := range []struct {
		u    api.Unit
		want api.Fault
	}{
		{api.Unit{Structs: []api.Struct{{Name: "s", Members: []api.Member{{Name: "a", Type: "i"}}}, {Name: "s"}}, Globals: twice, Funcs: []api.Func{f}}, api.Fault{At: 1, Code: api.ErrTwice}},
		{api.Unit{Structs: long, Globals: twice}, api.Fault{Code: api.ErrLong}},
		{api.Unit{Globals: make([]api.Global, api.MaxVars+1)}, api.Fault{Code: api.ErrLong}},
		{api.Unit{Funcs: make([]api.Func, 2*api.MaxFuncs+1)}, api.Fault{Code: api.ErrLong}},
		{api.Unit{Globals: append(twice[:2:2], api.Global{Var: api.Var{Name: "1", Type: "i"}})}, api.Fault{At: 2, Code: api.ErrTree}},
		{api.Unit{Globals: append(twice[:2:2], api.Global{Var: api.Var{Name: "h", Type: "v"}})}, api.Fault{At: 2, Code: api.ErrTree}},
		{api.Unit{Globals: twice, Funcs: []api.Func{f, f, {Name: "g", Type: "i"}}}, api.Fault{At: 2, Code: api.ErrTree}},
		{api.Unit{Globals: twice, Funcs: []api.Func{f, {Name: "g", Type: "f()i", Body: leaf(api.Node{Kind: api.NReturn})}}}, api.Fault{At: 1, Code: api.ErrTree}},
		{api.Unit{Funcs: []api.Func{f, {Name: "g", Type: "f()i", Body: make(api.Tree, api.MaxNodes+1)}}}, api.Fault{At: 1, Code: api.ErrLong}},
		{api.Unit{Funcs: []api.Func{f, {Name: "g", Type: "f()i", Params: []api.Var{{Name: "a", Type: "i"}}}}}, api.Fault{At: 1, Code: api.ErrTree}},
	} {
		same(t, all(x.want), tree.CheckUnit(x.u), x.want)
		same(t, all(x.want), everyCall(x.u, "f"), all("[]", "[]", x.want, "[]", x.want, "[]", "[]", x.want, "[]", x.want))
	}
}

// everyCall is what all calls tell of a unit and a function of it.
func everyCall(u api.Unit, name string) string {
	l, texts, f1 := names.File(u)
	funcs, f2 := names.Funcs(u)
	slots, bindings, f3 := names.Resolve(u, name)
	uses, f4 := names.Uses(u, name)
	return all(l, texts, f1, funcs, f2, slots, bindings, f3, uses, f4)
}
