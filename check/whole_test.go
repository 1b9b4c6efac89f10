package check_test

import (
	"fmt"
	"slices"
	"strconv"
	"strings"
	"testing"

	"catapult/api"
	"catapult/check"
	"catapult/lex"
	"catapult/names"
	"catapult/parse"
)

// 13.3, {0, ErrLong}, and types.Structs' fault, ahead of all else.
func TestLongProgram(t *testing.T) {
	var globals []api.CoreVar
	for i := range 257 {
		globals = append(globals, api.CoreVar{Name: "x" + strconv.Itoa(i), Type: "i"})
	}
	var funcs []api.CoreFunc
	for i := range 129 {
		funcs = append(funcs, api.CoreFunc{Name: "f" + strconv.Itoa(i), Type: "f()v", Body: read(t, "[Block]")})
	}
	main := api.CoreFunc{Name: "main", Type: "f()i", Body: read(t, "[Block]")}
	strings := slices.Repeat([]string{"a", strings.Repeat("\xff", api.MaxStr)}, 2048)
	good := api.Core{Globals: globals[:256], Funcs: append(funcs[:127:127], main), Strings: strings}
	same(t, "as long as may be", check.Check(good), api.Fault{})
	long := api.Fault{Code: api.ErrLong}
	for i, change := range []func(*api.Core){
		func(c *api.Core) { c.Globals = globals },
		func(c *api.Core) { c.Funcs = funcs },
		func(c *api.Core) { c.Strings = append(strings[:4096:4096], "") },
		func(c *api.Core) { c.Strings = []string{"a", strings[1] + "a"} },
		func(c *api.Core) { c.Structs = make([]api.Struct, 65) },
	} {
		c := good
		change(&c)
		same(t, all(i), check.Check(c), long)
		c.Structs = []api.Struct{{Name: "s", Members: []api.Member{{Name: "a", Type: "i"}}}, {Name: "s"}}
		if i < 4 {
			same(t, all(i), check.Check(c), long)
		}
		c = good
		c.Structs = []api.Struct{{Name: "s", Members: []api.Member{{Name: "a", Type: "i"}}}, {Name: "s"}}
		c.Globals = []api.CoreVar{{Name: "1"}}
		same(t, all(i), check.Check(c), api.Fault{At: 1, Code: api.ErrTwice})
	}
}

// 13.3: names of globals and functions.
func TestRightNames(t *testing.T) {
	for _, name := range []string{"", "1", "int", "a b", "setjmp", "getchar", "co_free", "x", strings.Repeat("a", 32)} {
		c := program(t, "i", "[Block]")
		c.Globals[1].Name = name
		same(t, name, check.Check(c), api.Fault{At: 1, Code: api.ErrType})
		c = program(t, "i", "[Block]")
		c.Funcs[1].Name = name
		same(t, name, check.Check(c), api.Fault{At: 1, Code: api.ErrTree})
	}
	for _, v := range names.Built() {
		c := program(t, "i", "[Block]")
		c.Globals[0].Name = v.Name
		same(t, v.Name, check.Check(c), api.Fault{Code: api.ErrType})
	}
	for i, name := range []string{"main", "f", "g", "h"} {
		c := program(t, "i", "[Block]")
		c.Globals[2].Name = name
		same(t, name, check.Check(c), api.Fault{At: i, Code: api.ErrTree})
		c = program(t, "i", "[Block]")
		c.Funcs[3].Name = name
		want := api.Fault{At: 3, Code: api.ErrTree}
		if i == 3 {
			want = api.Fault{}
		}
		same(t, name, check.Check(c), want)
	}
	c := program(t, "i", "[Block]")
	c.Globals[0].Name, c.Funcs[1].Name = strings.Repeat("a", 31), strings.Repeat("b", 31)
	same(t, "long names", check.Check(c), api.Fault{})
	// What is named twice is what stands first.
	c = program(t, "i", "[Block [Expr [call:i func-g:pf(i)i int1:i]]]")
	c.Funcs[3].Name = "g"
	same(t, "g twice", check.Check(c), api.Fault{At: 3, Code: api.ErrTree})
	c.Funcs[2], c.Funcs[3] = c.Funcs[3], c.Funcs[2]
	same(t, "g twice", check.Check(c), api.Fault{At: 1, Code: api.ErrTree})
}

// 13.3: types of globals and functions, and slots.
func TestRightTypes(t *testing.T) {
	for s, right := range map[api.Type]bool{"i": true, "c": true, "j": true, "pv": true, "St;": true, "a2:Sw;": true, "pSn;": true, "": false, "v": false, "f()i": false, "Sn;": false, "a2:Sn;": false, "a0:i": false, "x": false, "a65536:i": false, "a65536:c": true, "p": false, "a2:v": false} {
		c := program(t, "i", "[Block]")
		c.Globals[1].Type = s
		want := api.Fault{At: 1, Code: api.ErrType}
		if right {
			want = api.Fault{}
		}
		same(t, all(s), check.Check(c), want)
		c = program(t, "i", "[Block]")
		c.Funcs[1].Slots[3].Type = s
		if !right {
			want.Code = api.ErrTree
		}
		same(t, all(s), check.Check(c), want)
	}
	for i, change := range []func(*api.CoreFunc){
		func(f *api.CoreFunc) { f.Slots[0].Param = false },
		func(f *api.CoreFunc) { f.Slots[1].Param = false },
		func(f *api.CoreFunc) { f.Slots[2].Param = true },
		func(f *api.CoreFunc) { f.Slots[9].Param = true },
		func(f *api.CoreFunc) { f.Slots[0].Type = "u" },
		func(f *api.CoreFunc) { f.Slots[0], f.Slots[1] = f.Slots[1], f.Slots[0] },
		func(f *api.CoreFunc) { f.Slots = f.Slots[:1] },
		func(f *api.CoreFunc) { f.Slots = nil },
		func(f *api.CoreFunc) { f.Slots = append(f.Slots, make([]api.Slot, 1)...) },
		func(f *api.CoreFunc) { f.Slots = append(f.Slots, slices.Repeat(f.Slots[9:], 247)...) },
		func(f *api.CoreFunc) { f.Type = "f(i)i" },
		func(f *api.CoreFunc) { f.Type = "f(pc,i)i" },
		func(f *api.CoreFunc) { f.Type = "f(i,pc,c)i" },
		func(f *api.CoreFunc) { f.Type = "f(i,pc)St;" },
		func(f *api.CoreFunc) { f.Type = "f(i,pc)j" },
		func(f *api.CoreFunc) { f.Type = "f(i,pc)" },
		func(f *api.CoreFunc) { f.Type = "i" },
		func(f *api.CoreFunc) { f.Type = "pf(i,pc)i" },
		func(f *api.CoreFunc) { f.Type = "" },
		func(f *api.CoreFunc) { f.Type, f.Slots[0].Type = "f(a2:i,pc)i", "a2:i" },
	} {
		c := program(t, "i", "[Block]")
		change(&c.Funcs[1])
		same(t, all(i), check.Check(c), api.Fault{At: 1, Code: api.ErrTree})
	}
	for i, change := range []func(*api.CoreFunc){
		func(f *api.CoreFunc) { f.Slots = append(f.Slots, slices.Repeat(f.Slots[9:], 246)...) },
		func(f *api.CoreFunc) { f.Slots = f.Slots[:2] },
		func(f *api.CoreFunc) { f.Type = "f(i,pc)v" },
		func(f *api.CoreFunc) { f.Slots[0].Name, f.Slots[2].Name = "getchar", "1" },
	} {
		c := program(t, "i", "[Block]")
		change(&c.Funcs[1])
		same(t, all(i), check.Check(c), api.Fault{})
	}
	// A function that is not right may be named ahead of it; what it would be is of no matter, however it is written.
	for _, s := range []api.Type{"", "S", "S;", "a", "a:", "p", "v", "f(", "f(i", "x", "pS", "St"} {
		for _, x := range []string{"func-g:p%s", "[load:i func-g:p%s]", "[field0:pi func-g:p%s]", "[call:i func-g:p%s]", "[copy:p%s func-g:p%s func-g:p%s]", "[incr1-pre:i func-g:p%s]", "[plus1:p%s func-g:p%s int1:i]", "[conv:v func-g:p%s]", "[update14-i:i func-g:p%s int1:i]", "[conv:p%s null:pv]"} {
			c := program(t, "i", "[Block [Expr "+strings.ReplaceAll(x, "%s", string(s))+"]]")
			c.Funcs[2].Type = s
			if f := check.Check(c); f.Code != api.ErrTree || f.At != 1 && f.At != 2 {
				t.Fatal(s, x, f)
			}
		}
	}
}

// 13.3: what is no struct has no members, also where a struct has the name that its code is.
func TestStructsNamedAsTypes(t *testing.T) {
	c := program(t, "i", "[Block [Expr [field0:ps local2:pc]]]")
	c.Structs = append(c.Structs, api.Struct{Name: "c", Members: []api.Member{{Name: "s", Type: "s"}}})
	same(t, "a char", check.Check(c), api.Fault{At: 1, Code: api.ErrTree})
	c.Funcs[1].Body = read(t, "[Block [Expr [field0:ps null:pSc;]]]")
	same(t, "a struct c", check.Check(c), api.Fault{})
	same(t, "a member of a char", fault(t, "struct c { short s; }; int main() { char x; x.s; return 0; }"), "44 131")
}

// 13.3: what Unit tells is right, also where a type's address is deeper, or longer, than a type may be.
func TestDeepTypes(t *testing.T) {
	deep := strings.Repeat("*", 47)
	c := core(t, "int "+deep+"x; void *v; int main() { int "+deep+"d; v == &d; 0 == &x; &d == v; v = &d; *d == *x; return &d == 0; }")
	same(t, "deep", check.Check(c), api.Fault{})
	u := unit(t, "int main() { return 0; }")
	u.Globals = []api.Global{{Var: api.Var{Name: "x", Type: api.Type(scalarOf(api.MaxText))}}}
	for _, s := range []string{"&x", "0 == &x", "x == 0", "!x", "*x", "x = 0", "x = x", "1 ? x : 0", "(void)x"} {
		body, f := parse.Stmt(s + ";")
		same(t, s, f, api.Fault{})
		u.Funcs[0].Body = append(body, api.Node{Kind: api.NBlock, N: 1})
		c, f := check.Unit(u)
		same(t, s, all(f, check.Check(c)), all(api.Fault{}, api.Fault{}))
	}
}

// 13.3: the values of globals.
func TestRightGlobals(t *testing.T) {
	num := func(n int, s api.Type) api.Node { return api.Node{Kind: api.KInt, Int: n, Type: s} }
	null := func(s api.Type) api.Node { return api.Node{Kind: api.KNull, Type: s} }
	named := func(kind int, name string, s api.Type) api.Node { return api.Node{Kind: kind, Text: name, Type: s} }
	text := func(n int, s api.Type) api.Node { return api.Node{Kind: api.KString, Int: n, Type: s} }
	row := func(l ...api.Node) []api.Node { return l }
	for _, r := range []struct {
		t     api.Type
		init  []api.Node
		right bool
	}{
		{"i", row(num(5, "i")), true}, {"c", row(num(-128, "c")), true}, {"c", row(num(128, "c")), false}, {"u", row(num(4294967295, "u")), true}, {"u", row(num(-1, "u")), false}, {"s", row(num(32768, "s")), false}, {"i", row(num(5, "u")), false}, {"i", row(num(2147483648, "i")), false},
		{"i", row(num(5, "i"), num(5, "i")), false}, {"j", row(num(0, "i")), false}, {"j", nil, true}, {"a3:i", row(num(1, "i"), num(2, "i")), true}, {"a3:i", row(num(1, "i"), num(2, "i"), num(3, "i"), num(4, "i")), false},
		{"a30000:c", row(num(1, "c")), true}, {"a2:a2:St;", row(num(1, "c"), num(2, "i"), num(3, "c"), num(3, "c"), num(3, "c"), num(1, "c")), true}, {"a2:a2:St;", row(num(1, "c"), num(2, "i"), num(3, "c"), num(3, "c"), num(3, "i")), false},
		{"pi", row(null("pi")), true}, {"pf(i)i", row(null("pf(i)i")), true}, {"pv", row(null("pi")), false}, {"i", row(null("i")), false}, {"i", row(null("pi")), false},
		{"pf(i)i", row(named(api.KFunc, "g", "pf(i)i")), true}, {"pf(i)i", row(named(api.KFunc, "main", "pf(i)i")), true}, {"pf(i)i", row(named(api.KFunc, "x", "pf(i)i")), false}, {"pf(i)i", row(named(api.KFunc, "getchar", "pf(i)i")), false}, {"pi", row(named(api.KFunc, "g", "pi")), false}, {"pv", row(named(api.KFunc, "g", "pv")), false}, {"i", row(named(api.KFunc, "g", "i")), false},
		{"pi", row(named(api.KGlobal, "x", "pi")), true}, {"pv", row(named(api.KGlobal, "y", "pv")), true}, {"pSn;", row(named(api.KGlobal, "x", "pSn;")), true}, {"pi", row(named(api.KGlobal, "g", "pi")), false}, {"pi", row(named(api.KGlobal, "", "pi")), false}, {"pf(i)i", row(named(api.KGlobal, "x", "pf(i)i")), false}, {"i", row(named(api.KGlobal, "x", "i")), false}, {"pi", row(named(api.KGlobal, "x", "pu")), false}, {"pi", row(named(api.KGlobal, "last", "pi")), true},
		{"pc", row(text(0, "pc")), true}, {"pv", row(text(1, "pv")), true}, {"pc", row(text(2, "pc")), false}, {"pc", row(text(-1, "pc")), false}, {"pf(i)i", row(text(0, "pf(i)i")), false}, {"i", row(text(0, "i")), false}, {"pc", row(text(0, "pa3:c")), false},
		{"i", row(api.Node{Kind: api.KInt, N: 1, Type: "i"}), true}, {"i", row(api.Node{Kind: api.KInt, N: 65536, Type: "i"}), true}, {"i", row(api.Node{Kind: api.KInt, N: 65537, Type: "i"}), false}, {"i", row(api.Node{Kind: api.KInt, N: -1, Type: "i"}), false}, {"i", row(api.Node{Kind: api.KInt, At: -1, Type: "i"}), false}, {"i", row(api.Node{Kind: api.KInt, At: 65536, Type: "i"}), true}, {"i", row(api.Node{Kind: api.KInt, At: 65537, Type: "i"}), false}, {"i", row(api.Node{Kind: api.KInt, Text: "a", Type: "i"}), false},
		{"pi", row(api.Node{Kind: api.KNull, Int: 1, Type: "pi"}), false}, {"pi", row(api.Node{Kind: api.KNull, Text: "x", Type: "pi"}), false}, {"pi", row(api.Node{Kind: api.KGlobal, Int: 1, Text: "x", Type: "pi"}), false}, {"pc", row(api.Node{Kind: api.KString, Text: "x", Type: "pc"}), false}, {"pf(i)i", row(api.Node{Kind: api.KFunc, Int: 1, Text: "g", Type: "pf(i)i"}), false},
		{"i", row(api.Node{}), false}, {"i", row(api.Node{Kind: api.SNone}), false}, {"pi", row(api.Node{Kind: api.KLocal, Type: "pi"}), false}, {"i", row(api.Node{Kind: api.KBuilt, Text: "getchar", Type: "i"}), false}, {"i", row(num(1, "")), false},
	} {
		c := program(t, "i", "[Block]")
		c.Globals = append(c.Globals, api.CoreVar{Name: "next", Type: r.t, Init: r.init}, api.CoreVar{Name: "last", Type: "i"})
		want := api.Fault{At: 3, Code: api.ErrType}
		if r.right {
			want = api.Fault{}
		}
		same(t, all(r.t, r.init), check.Check(c), want)
	}
	c := program(t, "i", "[Block]")
	c.Globals = append(c.Globals, api.CoreVar{Name: "next", Type: "pi", Init: row(named(api.KGlobal, "last", "pi"))}, api.CoreVar{Name: "last"})
	same(t, "a global that is not right is named", check.Check(c), api.Fault{At: 4, Code: api.ErrType})
	c = program(t, "i", "[Block]")
	c.Globals[2].Init = row(named(api.KFunc, "h", "pf(i)i"))
	c.Funcs[3].Type = ""
	same(t, "a function that is not right is named", check.Check(c), api.Fault{At: 3, Code: api.ErrTree})
}

// 13.3, {0, ErrMain}: behind all else; and the order of the others.
func TestRightMain(t *testing.T) {
	for s, right := range map[api.Type]bool{"f()i": true, "f()v": false, "f()u": false, "f()c": false} {
		c := program(t, "i", "[Block]")
		c.Funcs[0].Type = s
		want := api.Fault{Code: api.ErrMain}
		if right {
			want = api.Fault{}
		}
		same(t, all(s), check.Check(c), want)
	}
	c := program(t, "i", "[Block]")
	c.Funcs[0].Name = "Main"
	same(t, "no main", check.Check(c), api.Fault{Code: api.ErrMain})
	c.Funcs[3].Body = nil
	same(t, "no main, and no body", check.Check(c), api.Fault{At: 3, Code: api.ErrTree})
	c.Funcs[2].Name = ""
	same(t, "no name, and no body", check.Check(c), api.Fault{At: 2, Code: api.ErrTree})
	c.Globals[2].Type = ""
	same(t, "no type", check.Check(c), api.Fault{At: 2, Code: api.ErrType})
	same(t, "nothing", check.Check(api.Core{}), api.Fault{Code: api.ErrMain})
	c = api.Core{Globals: []api.CoreVar{{Name: "main", Type: "i"}}}
	same(t, "main is a global", check.Check(c), api.Fault{Code: api.ErrMain})
}

// 13.4: Weigh.
func TestWeigh(t *testing.T) {
	c := program(t, "i", "[Block Decl2 [Expr [store:i local0:pi [add:i int1:i int2:i]]] [If int1:i [Block] [Return int5:i]] [Loop None [load:c local2:pc] None [Switch int1:i [Block [Case1 Break]]]]]")
	for name, want := range map[string]string{"f": all(4+4+4+4+4+12+64+12+4+4, 10, 0), "main": all(0, 0, 0), "g": all(4, 0, 0), "none": all(0, 0, 4), "": all(0, 0, 4), "x": all(0, 0, 4)} {
		bytes, nodes, e := check.Weigh(c, name)
		same(t, name, all(bytes, nodes, int(e)), want)
	}
	for s, want := range map[api.Type]int{"c": 4, "s": 4, "a3:s": 8, "a5:c": 8, "a8:c": 8, "j": 64, "St;": 12, "a2:Sw;": 152, "a65535:c": 65536} {
		c.Funcs[1].Slots[9].Type = s
		bytes, _, e := check.Weigh(c, "f")
		same(t, all(s), all(bytes, e), all(4+4+4+4+4+12+64+12+4+want, api.OK))
	}
	c.Funcs[2].Body = nil
	bytes, nodes, e := check.Weigh(c, "f")
	same(t, "a program that is not right", all(bytes, nodes, int(e)), all(0, 0, 90))
	bytes, nodes, e = check.Weigh(api.Core{}, "f")
	same(t, "no program", all(bytes, nodes, int(e)), all(0, 0, 136))
	c = core(t, "int main() { char c = 'a'; c += 1; return c; }")
	bytes, nodes, e = check.Weigh(c, "main")
	same(t, "the first example", all(bytes, nodes, int(e)), all(4, 8, 0))
}

// 13.4: Print.
func TestPrint(t *testing.T) {
	c := core(t, `char *s = "a"; int f(int *p, volatile char c) { *p += c; p++; return getchar(); } int main() { return f(0, "b"[1]); }`)
	s, f := check.Print(c)
	same(t, "Print", all(f, s), all(api.Fault{}, `f f(pi,c)i 4:0:0::ppi 7:1:0::pi 4:0:1::pc 7:1:0::c 10:1:0::i 35:2:14:"i":i 40:1:0:: 4:0:0::ppi 36:1:4:"post":pi 40:1:0:: 38:0:0:"getchar":i 50:1:0:: 41:3:0::
main f()i 3:0:0:"f":pf(pi,c)i 2:0:0::pi 6:0:1::pa2:c 30:1:0::pc 1:0:1::i 28:2:1::pc 7:1:0::c 37:3:0::i 50:1:0:: 41:1:0::
`))
	c = program(t, "i", "[Block [Expr [incr-4-pre:pi local4:ppi]] [Switch int1:i [Block [Case-5 [Block]]]] [Loop1 None int-1:i None [Expr global-x:pi]]]")
	s, f = check.Print(c)
	same(t, "Print", all(f, s), all(api.Fault{}, `main f()i 41:0:0::
f f(i,pc)i 4:0:4::ppi 36:1:-4:"pre":pi 40:1:0:: 1:0:1::i 41:0:0:: 46:1:-5:: 41:1:0:: 45:2:0:: 51:0:0:: 1:0:-1::i 51:0:0:: 5:0:0:"x":pi 40:1:0:: 44:4:1:: 41:3:0::
g f(i)i 41:0:0::
h f()v 41:0:0::
`))
	c.Funcs[0].Name = "Main"
	s, f = check.Print(c)
	same(t, "a program that is not right", all(s == "", f), all(true, api.Fault{Code: api.ErrMain}))
}

// printed is what Print tells, put together once more.
func printed(c api.Core) string {
	var w strings.Builder
	for _, f := range c.Funcs {
		fmt.Fprintf(&w, "%s %s", f.Name, f.Type)
		for _, n := range f.Body {
			text := ""
			if n.Text != "" {
				text = lex.Quote(n.Text)
			}
			fmt.Fprintf(&w, " %d:%d:%d:%s:%s", n.Kind, n.N, n.Int, text, n.Type)
		}
		w.WriteString("\n")
	}
	return w.String()
}

// blocks is a body of so many empty blocks, and a number of so many digits, if there is to be one.
func blocks(n, digits int) api.Tree {
	l := slices.Repeat(api.Tree{{Kind: api.SBlock}}, n)
	if digits > 0 {
		number, _ := strconv.Atoi(strings.Repeat("1", digits))
		l = append(l, api.Node{Kind: api.KInt, Int: number, Type: "i"}, api.Node{Kind: api.SExpr, N: 1})
		n++
	}
	return append(l, api.Node{Kind: api.SBlock, N: n})
}

// 13.4, {0, ErrLong}: a text of more than 1 << 20 bytes.
func TestLongPrint(t *testing.T) {
	c := program(t, "i", "[Block]")
	for i := range 3 {
		c.Funcs[i].Body = blocks(32000, 0)
	}
	for _, size := range []int{1<<20 - 1, 1 << 20, 1<<20 + 1, 1<<20 + 2, 1<<20 + 8} {
		c.Funcs[3].Body = blocks(0, 0)
		for n := (size-len(printed(c)))/len(" 41:0:0::") - 4; len(printed(c)) != size; n++ {
			c.Funcs[3].Body = blocks(n, 0)
			left := size - len(printed(c)) - len(" 1:0:::i 40:1:0::")
			if 1 <= left && left <= 10 {
				c.Funcs[3].Body = blocks(n, left)
			}
			if left < 1 {
				t.Fatal(size, left)
			}
		}
		s, f := check.Print(c)
		if size > 1<<20 {
			same(t, "a long text", all(s == "", f), all(true, api.Fault{Code: api.ErrLong}))
		} else {
			same(t, "a long text", all(s == printed(c), f), all(true, api.Fault{}))
		}
	}
	c.Funcs = append(c.Funcs, api.CoreFunc{Name: "k", Type: "f()i", Body: blocks(32760, 0)})
	s, f := check.Print(c)
	same(t, "a longer text", all(s == "", f), all(true, api.Fault{Code: api.ErrLong}))
}
