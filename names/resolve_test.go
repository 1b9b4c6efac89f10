package names_test

import (
	"strings"
	"testing"

	"catapult/api"
	"catapult/names"
)

// 11.3: the slots of a function f, and what its names stand for.
func TestResolve(t *testing.T) {
	const file = "int g; int h(); "
	for s, want := range map[string]string{
		// Slots, and their declarations.
		"int f() { }": "; ", "int f(int a, volatile char *b) { }": "param i a, volatile param pc b; ", "int f() { int a; volatile short *b, c[3]; jmp_buf d; }": "i a, volatile ps b, volatile a3:s c, j d; +a:s0 +b:s1 +c:s2 +d:s3",
		"int f(int a[2], int b(char), jmp_buf c) { a; b; c; }": "param pi a, param pf(c)i b, param pj c; a:s0 b:s1 c:s2", "int f() { struct t *a; a; }": "pSt; a; +a:s0 a:s0",
		"int f(int a) { int b; { int c; } for (int d = 0; ; ) { int e; } int c; }": "param i a, i b, i c, i d, i e, i c; +b:s1 +c:s2 +d:s3 +e:s4 +c:s5",
		// What a name stands for: of a slot, of the file, also behind the function, of what is built in.
		"int f(int a) { return a + g + h() + f(a) + k() + i + getchar(); } int k(); int i;":                   "param i a; a:s0 g:g0 h:f0 f:f1 a:s0 k:f2 i:g1 getchar:b0",
		"int f() { getchar; putchar; exit; setjmp; longjmp; co_new; co_resume; co_yield; co_done; co_free; }": "; getchar:b0 putchar:b1 exit:b2 setjmp:b3 longjmp:b4 co_new:b5 co_resume:b6 co_yield:b7 co_done:b8 co_free:b9",
		"int f(int g, int h) { g; h; f; }": "param i g, param i h; g:s0 h:s1 f:f1", "int f(int f) { f; }": "param i f; f:s0", "int f(int exit) { int putchar; exit; putchar; getchar; }": "param i exit, i putchar; +putchar:s1 exit:s0 putchar:s1 getchar:b0",
		"int f() { g; h; int g, h; g; h; }": "i g, i h; g:g0 h:f0 +g:s0 +h:s1 g:s0 h:s1", "int f() { exit; int exit; exit; }": "i exit; exit:b2 +exit:s0 exit:s0", "int f() { f; int f; f; }": "i f; f:f1 +f:s0 f:s0",
		// From the declaration on, behind its own value.
		"int f() { int g = g, a = g; g; }": "i g, i a; g:g0 +g:s0 g:s0 +a:s1 g:s0", "int f(int a) { { int a = a; a; } a; }": "param i a, i a; a:s0 +a:s1 a:s1 a:s0", "int f() { int h = h() + (g = h()); h; }": "i h; h:f0 g:g0 h:f0 +h:s0 h:s0", "int f() { int g = sizeof g; int a = sizeof g; }": "i g, i a; g:g0 +g:s0 g:s0 +a:s1",
		"int f() { { g; int g; { g; } } g; }": "i g; g:g0 +g:s0 g:s0 g:g0", "int f() { { { g; } int g; } }": "i g; g:g0 +g:s0", "int f() { int a; { a; int a; a; { a; int a; a; } a; } a; }": "i a, i a, i a; +a:s0 a:s0 +a:s1 a:s1 a:s1 +a:s2 a:s2 a:s1 a:s0",
		// Blocks, one behind the other.
		"int f() { { int a; a; } { char a; a; } }": "i a, c a; +a:s0 a:s0 +a:s1 a:s1", "int f() { { int g; } g; }": "i g; +g:s0 g:g0", "int f() { { { int g; g; } g; } g; int g; g; }": "i g, i g; +g:s0 g:s0 g:g0 g:g0 +g:s1 g:s1",
		"int f(int a) { if (a) { int a; a; } else { a; int a; a; } a; }": "param i a, i a, i a; a:s0 +a:s1 a:s1 a:s0 +a:s2 a:s2 a:s0", "int f() { while (g) { int g; g; } do { g; int g; } while (g); }": "i g, i g; g:g0 +g:s0 g:s0 g:g0 +g:s1 g:g0",
		"int f() { switch (g) { int g; case 1: g; { int g; default: g; } g; } g; }": "i g, i g; g:g0 +g:s0 g:s0 +g:s1 g:s1 g:s0 g:g0", "int f() { if (g) { int g; } else g; }": "i g; g:g0 +g:s0 g:g0", "int f() { ; { } int g; { } ; g; }": "i g; +g:s0 g:s0",
		// A for: its first part and all else of it.
		"int f() { for (int g = g; g; g++) g; g; }": "i g; g:g0 +g:s0 g:s0 g:s0 g:s0 g:g0", "int f() { for (int g = 0; g; g++) { g; int g; g; } g; }": "i g, i g; +g:s0 g:s0 g:s0 g:s0 +g:s1 g:s1 g:g0", "int f(int a) { for (int a = a; ; ) for (int a = a; a; ) a; }": "param i a, i a, i a; a:s0 +a:s1 a:s1 +a:s2 a:s2 a:s2",
		"int f() { for (g; g; g) { int g; } g; }": "i g; g:g0 g:g0 g:g0 +g:s0 g:g0", "int f() { for (int a = 0; ; ) ; for (int a = 1; ; ) a; int a; a; }": "i a, i a, i a; +a:s0 +a:s1 a:s1 +a:s2 a:s2", "int f() { int a; for (a = 0; ; ) for (int a = 1; ; a) ; a; }": "i a, i a; +a:s0 a:s0 +a:s1 a:s1 a:s0", "int f() { for (volatile char *g = 0; ; ) g; }": "volatile pc g; +g:s0 g:s0",
		"int f() { for (int a = 0; ; ) { int a; { for (int a = 0; ; ) { int a; a; } a; } a; } }": "i a, i a, i a, i a; +a:s0 +a:s1 +a:s2 +a:s3 a:s3 a:s1 a:s1",
		// Every kind of expression and statement, and members, which are no names.
		"int f(int a, int b) { -a; ++b; b--; a * b; a = b; a ? b : g; a, b; h(a, b); a[b]; a.b; b->a; a.g.h; (char)a; sizeof a; sizeof(int); return a; }": "param i a, param i b; a:s0 b:s1 b:s1 a:s0 b:s1 a:s0 b:s1 a:s0 b:s1 g:g0 a:s0 b:s1 h:f0 a:s0 b:s1 a:s0 b:s1 a:s0 b:s1 a:s0 a:s0 a:s0 a:s0",
		"int f(int a) { a.nothing; a->nothing; \"nothing\"; break; continue; case 1: default: return; }":                                                  "param i a; a:s0 a:s0", "int f(int a) { switch (a) case a: default: if (a) while (a) do a; while (a); }": "param i a; a:s0 a:s0 a:s0 a:s0 a:s0 a:s0",
		// The one that has a body.
		"int f(int a, int b); int f(int b, int a) { a; b; } int f(int, int c);": "param i b, param i a; a:s1 b:s0", "int k() { int g; nothing; } int f() { g; k; }": "; g:g0 k:f1",
	} {
		same(t, s, resolved(t, file+s), want)
	}
}

// 11.3: the Type of what a name stands for, of each kind, and of an NDecl; of all other nodes nothing.
func TestTypesOfBindings(t *testing.T) {
	u := unit(t, "char *g; int h(int, char); int f(short a) { int (*b)(void) = g; h(a, b); exit(0); }")
	_, l, f := names.Resolve(u, "f")
	body := bodyOf(u, "f")
	same(t, "fault", f, api.Fault{})
	want := map[int]api.Binding{}
	for at, n := range body {
		want[at] = api.Binding{}
		switch n.Text {
		case "g":
			want[at] = api.Binding{Kind: api.NameGlobal, Type: "pc"}
		case "h":
			want[at] = api.Binding{Kind: api.NameFunc, Type: "f(i,c)i"}
		case "a":
			want[at] = api.Binding{Kind: api.NameSlot, Type: "s"}
		case "b":
			want[at] = api.Binding{Kind: api.NameSlot, Index: 1, Type: "pf()i"}
		case "exit":
			want[at] = api.Binding{Kind: api.NameBuilt, Index: 2, Type: "f(i)v"}
		}
		same(t, all(n), l[at], want[at])
	}
	same(t, "nodes", all(len(l), len(want)), all(len(body), 12))
}

// 11.3: the first fault of a function f, at its place, as Walk goes.
func TestResolveFaults(t *testing.T) {
	for s, want := range map[string]api.Fault{
		// The file's faults, ahead of those of the function.
		"int x; int x; int f() { nothing; }": {At: 7, Code: api.ErrTwice}, "int f() { nothing; } int g(); char g();": {At: 30, Code: api.ErrType}, "int x; int x;": {At: 7, Code: api.ErrTwice}, "int f() { nothing; } int f() { }": {At: 21, Code: api.ErrTwice},
		// Nothing of that name has a body.
		"": {Code: api.ErrNone}, "int f();": {Code: api.ErrNone}, "int f(); int f(void); int g() { }": {Code: api.ErrNone}, "int f;": {Code: api.ErrNone}, "struct f { int f; }; int g() { int f; }": {Code: api.ErrNone}, "int F() { } int ff() { } int f_() { }": {Code: api.ErrNone},
		// What is there already, in the same scope.
		"int f(int a, int a) { }": {Code: api.ErrTwice}, " int f(int a, int b, int a) { nothing; }": {At: 1, Code: api.ErrTwice}, "int f(int a, int a); int f(int a, int b) { }": {}, "int f(int a, int b); int f(int a, int a) { }": {At: 21, Code: api.ErrTwice}, "int f(int a, int a) { } int g(int a, int a) { }": {Code: api.ErrTwice},
		"int f(int a) { int a; }": {At: 19, Code: api.ErrTwice}, "int f(int a) { ; int *b, (*a)(int); }": {At: 27, Code: api.ErrTwice}, "int f() { int a, a; }": {At: 17, Code: api.ErrTwice}, "int f() { int a; { int b; } char a; }": {At: 33, Code: api.ErrTwice}, "int f() { { int a; int a; } }": {At: 23, Code: api.ErrTwice}, "int f() { { int a; } { int b, b; } }": {At: 30, Code: api.ErrTwice}, "int f() { int a; a; volatile int a; }": {At: 33, Code: api.ErrTwice},
		"int f() { for (int a = 0; ; ) { int b, a, b; } }": {At: 42, Code: api.ErrTwice}, "int f(int a) { for (int a = 0; ; ) { int a; { int a; } } }": {}, "int f(int a) { { int a; } }": {}, "int f() { int a; for (int a = 0; ; ) ; for (int a = 0; ; ) ; }": {}, "int f() { for (int a = 0; ; ) ; int a; }": {}, "int f() { int a; { int a; { int a; } } { int a; } }": {}, "int f(int f) { int f; }": {At: 19, Code: api.ErrTwice}, "int f() { int f; int getchar; }": {},
		// What stands for nothing.
		"int f() { a; }": {At: 10, Code: api.ErrName}, "int f() { return 1 + (a); }": {At: 22, Code: api.ErrName}, "int f() { a; int a; }": {At: 10, Code: api.ErrName}, "int f() { int a = a; }": {At: 18, Code: api.ErrName}, "int f() { int b = 1, a = b + a; }": {At: 29, Code: api.ErrName}, "int f() { { int a; } a; }": {At: 21, Code: api.ErrName}, "int f() { for (int a = 0; ; ) a; a; }": {At: 33, Code: api.ErrName}, "int f() { for (int a = a; ; ) ; }": {At: 23, Code: api.ErrName},
		"int f() { if (1) { int a; } else a; }": {At: 33, Code: api.ErrName}, "int f() { do { int a; } while (a); }": {At: 31, Code: api.ErrName}, "int f() { while (a) { int a; } }": {At: 17, Code: api.ErrName}, "int f() { switch (1) { int a; } a; }": {At: 32, Code: api.ErrName}, "int f() { { int a; { int b; } b; } }": {At: 30, Code: api.ErrName}, "int f() { sizeof a; }": {At: 17, Code: api.ErrName}, "int f() { f.a; f->a; }": {}, "int f() { a.f; }": {At: 10, Code: api.ErrName}, "int f() { Getchar(); }": {At: 10, Code: api.ErrName},
		"struct s { int a; }; int f() { a; }": {At: 31, Code: api.ErrName}, "struct s { int a; }; int f() { s; }": {At: 31, Code: api.ErrName}, "int g(int a) { } int f() { a; }": {At: 27, Code: api.ErrName}, "int g() { int a; } int f() { a; }": {At: 29, Code: api.ErrName}, "int f(int b); int f(int a) { b; }": {At: 29, Code: api.ErrName}, "int f() { case a: ; }": {At: 15, Code: api.ErrName},
		// The first of several, each whole ahead of its parts.
		"int f() { a; b; }": {At: 10, Code: api.ErrName}, "int f() { a + b; }": {At: 10, Code: api.ErrName}, "int f() { int a; int a = b; }": {At: 21, Code: api.ErrTwice}, "int f() { int a = b; int a; }": {At: 18, Code: api.ErrName}, "int f() { int a, a; b; }": {At: 17, Code: api.ErrTwice}, "int f() { b; int a, a; }": {At: 10, Code: api.ErrName}, "int f(int a) { int a = a; }": {At: 19, Code: api.ErrTwice}, "int f() { for (int a = b; c; d) e; }": {At: 23, Code: api.ErrName}, "int f() { for (int a = 1; c; d) e; }": {At: 26, Code: api.ErrName}, "int f() { for (; ; d) e; }": {At: 19, Code: api.ErrName},
		"int f() { do a; while (b); }": {At: 13, Code: api.ErrName}, "int f(int a, int a) { int a; b; }": {Code: api.ErrTwice},
	} {
		u := unit(t, s)
		slots, l, f := names.Resolve(u, "f")
		uses, f2 := names.Uses(u, "f")
		same(t, s, all(f, f2), all(want, want))
		if f.Code != api.OK {
			same(t, s, all(slots == nil, l == nil, uses == nil), all(true, true, true))
		}
	}
}

// 11.3: the names that nothing with a body has, whatever they are.
func TestNoSuchFunction(t *testing.T) {
	u := unit(t, "int x; int f() { } int g();")
	for _, name := range []string{"", "x", "g", "h", "F", "f ", " f", "ff", "getchar", "int", "é", "\x00", strings.Repeat("f", 1<<20)} {
		slots, l, f := names.Resolve(u, name)
		uses, f2 := names.Uses(u, name)
		same(t, name, all(slots == nil, l == nil, f, uses == nil, f2), all(true, true, api.Fault{Code: api.ErrNone}, true, api.Fault{Code: api.ErrNone}))
	}
}

// 11.3: at most MaxVars slots, and what is told where there are more.
func TestManySlots(t *testing.T) {
	at := func(s, mark string) int { return strings.LastIndex(s, mark) }
	params := "int f(int p0, int p1, int p2, int p3, int p4, int p5, int p6, int p7) { "
	for _, x := range []struct {
		s, mark string
		want    api.Errno
		slots   int
	}{
		{s: "int f() { " + counted(256, "int a#; ") + "}", slots: 256},
		{s: "int f() { " + counted(256, "{ int a; } ") + "}", slots: 256},
		{s: params + counted(248, "int a#; ") + "}", slots: 256},
		{s: "int f() { " + counted(128, "for (int a = 0; ; ) { int a; } ") + "a0; } int a0;", slots: 256},
		{s: "int f() { " + counted(257, "int a#; ") + "}", mark: "a256", want: api.ErrLong},
		{s: "int f() { " + counted(257, "{ int a; } ") + "}", mark: "a", want: api.ErrLong},
		{s: params + counted(249, "int a#; ") + "}", mark: "a248", want: api.ErrLong},
		{s: "int f() { " + counted(258, "int a#; ") + "}", mark: "a256", want: api.ErrLong},
		{s: "int f() { " + counted(256, "int a#; ") + "for (int b = 0; ; ) ; }", mark: "b", want: api.ErrLong},
		{s: "int f() { " + counted(256, "int a#; ") + "int a7; }", mark: "a7", want: api.ErrTwice},
		{s: "int f() { " + counted(256, "int a#; ") + "{ int a7; } }", mark: "a7", want: api.ErrLong},
		{s: "int f() { " + counted(256, "int a#; ") + "int b = nothing; }", mark: "b", want: api.ErrLong},
		{s: "int f() { " + counted(256, "int a#; ") + "nothing; int b; }", mark: "nothing", want: api.ErrName},
		{s: params + counted(248, "int a#; ") + "int p3; }", mark: "p3", want: api.ErrTwice},
		{s: "int g() { " + counted(200, "int a#; ") + "} int f() { " + counted(200, "int a#; ") + "}", slots: 200},
	} {
		u := unit(t, x.s)
		slots, l, f := names.Resolve(u, "f")
		var want api.Fault
		if x.want != api.OK {
			want = api.Fault{At: at(x.s, x.mark), Code: x.want}
		}
		same(t, x.s, all(f, len(slots), len(l) > 0), all(want, x.slots, x.want == api.OK))
		if x.slots == 256 {
			same(t, x.s, all(slots[255].Name[:1], plainSlots(u, "f")), all("a", all(slots)))
		}
	}
}

// 11.4: the globals and functions that a body names, each once, in the order of first use.
func TestUses(t *testing.T) {
	const file = "int a, b, c; int x(); int y(); int z(); "
	for s, want := range map[string]string{
		"int f() { }": "", "int f() { b; a; }": "b a", "int f() { a; b; a; b; c; a; }": "a b c", "int f() { z(c, y(a), x) + b; }": "z c y a x b", "int f() { f(); a; f; }": "f a", "int f() { f; }": "f", "int f() { getchar(); exit(a); co_new(x, setjmp, 0); }": "a x", "int f() { putchar(getchar()); }": "",
		"int f(int a) { a; b; }": "b", "int f() { int a; a; { b; int b; b; } c; }": "b c", "int f() { { int a; a; } a; }": "a", "int f() { a; int a; a; }": "a", "int f() { int a = a; }": "a", "int f() { int exit; exit; exit; }": "", "int f() { for (int a = b; a; x()) z; a; }": "b x z a",
		"int f() { c = b = a; }": "c b a", "int f() { a.b; c->x; }": "a c", "int f() { k; l; } int k(); int l;": "k l", "int f() { \"a\"; sizeof(int); sizeof b; }": "b", "int f() { do a; while (b); }": "a b", "int f() { a ? c : b; }": "a c b", "int f() { int f; f; }": "", "int g() { a; } int f() { g; } int h() { b; }": "g",
	} {
		l, f := names.Uses(unit(t, file+s), "f")
		same(t, s, all(strings.Join(l, " "), f), all(want, api.Fault{}))
	}
}
