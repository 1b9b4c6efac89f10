package parse_test

import (
	"slices"
	"strings"
	"testing"

	"catapult/api"
	"catapult/parse"
	"catapult/tree"
)

// 10.1 to 10.3: texts by chance are read as what they were put together from, each node at its place.
func TestReadAsMeant(t *testing.T) {
	for seed := range 1500 {
		for layout := range 3 {
			g := newGrower(seed, layout)
			want := g.unit(5)
			got, f := parse.Unit(g.text.String())
			same(t, g.text.String(), all(f, got), all(api.Fault{}, want))
		}
	}
	for seed := range 1500 {
		for layout := range 3 {
			g := newGrower(seed, layout)
			g.expression(commaLevel, 7)
			x, f := parse.Expr(g.text.String())
			same(t, g.text.String(), all(f, x), all(api.Fault{}, g.nodes))
			g = newGrower(seed, layout)
			if g.one(5) {
				g.declaration(3, 1)
			} else {
				g.statement(6, false)
			}
			x, f = parse.Stmt(g.text.String())
			same(t, g.text.String(), all(f, x), all(api.Fault{}, g.nodes))
			g = newGrower(seed, layout)
			v := g.variable("", anything, 3)
			v.Name = ""
			g.tokens(g.spelled(v.base)...)
			g.declarator(v)
			code, f := parse.Type(g.text.String())
			same(t, g.text.String(), all(f, code), all(api.Fault{}, v.Type))
		}
	}
}

// unplaced is a unit with no places.
func unplaced(u api.Unit) api.Unit {
	strip := func(x api.Tree) api.Tree {
		x = slices.Clone(x)
		for i := range x {
			x[i].At = 0
		}
		return x
	}
	u.Globals, u.Funcs = slices.Clone(u.Globals), slices.Clone(u.Funcs)
	for i := range u.Globals {
		u.Globals[i].At, u.Globals[i].Init = 0, slices.Clone(u.Globals[i].Init)
		for j, x := range u.Globals[i].Init {
			u.Globals[i].Init[j] = strip(x)
		}
	}
	for i := range u.Funcs {
		u.Funcs[i].At, u.Funcs[i].Body = 0, strip(u.Funcs[i].Body)
	}
	return u
}

// 10.4: what is laid out of a right unit is read as it, and is laid out as it was.
func TestThereAndBack(t *testing.T) {
	for seed := range 3000 {
		want := newGrower(seed, 0).unit(6)
		s, f := tree.Print(want)
		same(t, "laid out", f, api.Fault{})
		got, f := parse.Unit(s)
		same(t, s, all(f, unplaced(got)), all(api.Fault{}, unplaced(want)))
		again, f := tree.Print(got)
		same(t, s, all(again, f), all(s, api.Fault{}))
	}
}

// 10.4: likewise of units that no text was read for: numbers as they are told, parts of all kinds, long ones.
func TestOtherUnitsThereAndBack(t *testing.T) {
	leaf := func(n api.Node) api.Tree { return api.Tree{n} }
	name := leaf(api.Node{Kind: api.NName, Text: "x"})
	var values []api.Tree
	for n := -128; n < 128; n++ {
		values = append(values, leaf(api.Node{Kind: api.NInt, Int: n, Type: "i"}))
		values = append(values, leaf(api.Node{Kind: api.NString, Text: string([]byte{byte(n), '0', 'f'})}))
	}
	for _, n := range []int{0, 1, 1<<31 - 1, 1 << 31, 1<<32 - 1} {
		values = append(values, leaf(api.Node{Kind: api.NInt, Int: n, Type: "u"}))
	}
	build := func(n api.Node, parts ...api.Tree) {
		x, e := tree.Build(n, parts...)
		same(t, all(n), e, api.OK)
		values = append(values, x)
	}
	for kind, marks := range map[int]string{api.NBinary: "* / % + - << >> < > <= >= == != & ^ | && ||", api.NAssign: "= *= /= %= += -= <<= >>= &= ^= |="} {
		for mark := range strings.FieldsSeq(marks) {
			build(api.Node{Kind: kind, Text: mark}, name, name)
		}
	}
	of := append([]api.Tree{}, values[len(values)-40:]...)
	for _, x := range of {
		for _, n := range []api.Node{{Kind: api.NUnary, Text: "-"}, {Kind: api.NUnary, Text: "&"}, {Kind: api.NPre, Text: "--"}, {Kind: api.NPost, Text: "--"}, {Kind: api.NDot, Text: "x"}, {Kind: api.NCast, Type: "pf()v"}, {Kind: api.NSizeof}, {Kind: api.NCall}} {
			build(n, x)
			build(api.Node{Kind: api.NCast, Type: "c"}, values[len(values)-1])
		}
		build(api.Node{Kind: api.NCall}, name, x, x)
		build(api.Node{Kind: api.NIndex}, name, x)
		build(api.Node{Kind: api.NComma}, x, x)
		build(api.Node{Kind: api.NCond}, x, x, x)
		for _, mark := range []string{"||", "==", "*", "+"} {
			build(api.Node{Kind: api.NBinary, Text: mark}, x, name)
			build(api.Node{Kind: api.NBinary, Text: mark}, name, x)
		}
	}
	for i := 0; i < len(values); i += 100 {
		u := api.Unit{Globals: []api.Global{{Var: api.Var{Name: "x", Type: "i", Volatile: true}, Init: values[i:min(i+100, len(values))]}}}
		s, f := tree.Print(u)
		same(t, "laid out", f, api.Fault{})
		got, f := parse.Unit(s)
		same(t, s, all(f, unplaced(got)), all(api.Fault{}, unplaced(u)))
	}
}

// 10.5, 10.6: brackets around parts of an expression, blank and comments between tokens change nothing but places.
func TestLayoutsAreTheSame(t *testing.T) {
	for seed := range 1000 {
		plain := newGrower(seed, 0)
		want := unplaced(plain.unit(5))
		first := ""
		for layout := range 4 {
			g := newGrower(seed, layout)
			g.unit(5)
			u, f := parse.Unit(g.text.String())
			same(t, g.text.String(), all(f, unplaced(u)), all(api.Fault{}, want))
			s, f := tree.Print(u)
			if layout == 0 {
				first = s
			}
			same(t, g.text.String(), all(s, f), all(first, api.Fault{}))
		}
	}
}

// 10.5: brackets around each part of an expression, around one at a time, and around all.
func TestBracketsAroundEachPart(t *testing.T) {
	for seed := range 1000 {
		plain := newGrower(seed, 0)
		plain.expression(commaLevel, 5)
		for only := -1; only <= plain.parts; only++ {
			g := newGrower(seed, 0)
			g.only = only
			g.expression(commaLevel, 5)
			s := g.text.String()
			x, f := parse.Expr(s)
			same(t, s, all(f, x, tree.Same(x, plain.nodes)), all(api.Fault{}, g.nodes, true))
		}
	}
}

// R4: what is answered is new memory, and no two lists of one answer share any.
func TestOwnMemory(t *testing.T) {
	wipe := func(x api.Tree) {
		for i := range x[:cap(x)] {
			x[:cap(x)][i] = api.Node{Kind: -1}
		}
	}
	for seed := range 300 {
		g := newGrower(seed, 1)
		want := g.unit(5)
		s := g.text.String()
		was := all(want)
		u, _ := parse.Unit(s)
		other, _ := parse.Unit(s)
		for i, x := range u.Structs {
			same(t, s, all(x), all(want.Structs[i]))
			clear(x.Members[:cap(x.Members)])
		}
		for i, x := range u.Globals {
			for j, y := range x.Init {
				same(t, s, all(y), all(want.Globals[i].Init[j]))
				wipe(y)
			}
			clear(x.Init[:cap(x.Init)])
		}
		for i, x := range u.Funcs {
			same(t, s, all(x), all(want.Funcs[i]))
			wipe(x.Body)
			clear(x.Params[:cap(x.Params)])
		}
		clear(u.Structs[:cap(u.Structs)])
		clear(u.Globals[:cap(u.Globals)])
		clear(u.Funcs[:cap(u.Funcs)])
		again, _ := parse.Unit(s)
		same(t, s, all(other), was)
		same(t, s, all(again), was)
	}
}

// P1, R1, R3, R5: every call answers, whatever it is handed, the same in any order, and an error alone.
func TestAnswersHangOnArgumentsAlone(t *testing.T) {
	const calls = 3000
	ask := func(seed int) string {
		c := chance(seed*13 + 5)
		var s string
		switch c.below(3) {
		case 0:
			for range c.below(12) {
				s += string([]byte{byte(c.below(256))})
			}
		case 1:
			for range c.below(30) {
				s += of(&c, "int", "void", "struct", "a", "(", ")", "[", "]", "{", "}", "*", ",", ";", "1", "=", "sizeof", "\"", "'", "/*", "\xff") + of(&c, "", " ")
			}
		default:
			g := newGrower(seed, c.below(3))
			g.unit(4)
			s = g.text.String()
			if c.below(2) == 0 {
				s = s[:c.below(len(s))]
			}
		}
		u, f1 := parse.Unit(s)
		x, f2 := parse.Expr(s)
		y, f3 := parse.Stmt(s)
		code, f4 := parse.Type(s)
		for i, isNone := range []bool{len(u.Structs)+len(u.Globals)+len(u.Funcs) == 0, x == nil, y == nil, code == ""} {
			if f := []api.Fault{f1, f2, f3, f4}[i]; f.Code != api.OK && !isNone || f.Code == api.OK && f.At != 0 || f.At < 0 || f.At > len(s) {
				t.Fatalf("%q: an answer beside %v", s, f)
			}
		}
		return all(u, f1, x, f2, y, f3, code, f4)
	}
	var there []string
	for seed := range calls {
		there = append(there, ask(seed))
	}
	for seed := calls - 1; seed >= 0; seed-- {
		same(t, "once more", ask(seed), there[seed])
	}
}

// P1: texts that nest as deep as their tokens let them.
func TestDeepTexts(t *testing.T) {
	const most = 1 << 14
	for _, part := range []string{"(", "[", "{", "a[", "f(", "-", "*", "(int)", "sizeof ", "sizeof(", "++", "a=", "a?", "a?b:", "a+(", "int(", "int(*", "int f(", "struct s{", "if(a)", "if(a);else ", "while(a)", "do ", "for(;;)", "for(", "switch(a)", "case 1:", "default:", "return(", "int a;", "int a={", "int f(){", "a,", "a*b+", "int*", "void(void(", "void a(", "[1]", "()"} {
		tokens := len(tokensOf(t, part))
		for _, behind := range []string{"", ")", ";}", "a", "1]", "while(a);"} {
			s := strings.Repeat(part, (most-4)/tokens/2) + strings.Repeat(behind, (most-4)/2/5)
			if len(s) > api.MaxText {
				s = s[:api.MaxText]
			}
			for _, rule := range []string{"unit", "expression", "alone", "type"} {
				if f := faultOf(rule, s); f.At < 0 || f.At > len(s) {
					t.Fatalf("%s %.100s: %v", rule, s, f)
				}
			}
		}
	}
}
