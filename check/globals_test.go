package check_test

import (
	"fmt"
	"slices"
	"strconv"
	"strings"
	"testing"

	"catapult/api"
	"catapult/check"
)

// What stands ahead of the globals that are looked at, and behind them.
const (
	ahead  = "struct t { char c; short s[2]; int *p; jmp_buf j; int (*h)(int); }; struct none *X; int I; int A[3]; struct t T; char B[2][3]; int (*H)(int); "
	behind = " int f(int a) { return a; } int z(int); void h(void) { } int main() { return 0; }"
)

// nodeTold is a node of a global: its kind's letter, what it has, its type, and its place from a byte on.
func nodeTold(n api.Node, from int) string {
	s := ""
	switch n.Kind {
	case api.KInt:
		s = strconv.Itoa(n.Int)
	case api.KNull:
		s = "null"
	case api.KFunc:
		s = "@" + n.Text
	case api.KGlobal:
		s = "&" + n.Text
	case api.KString:
		s = "&" + strconv.Itoa(n.Int)
	}
	return fmt.Sprintf("%s:%s@%d", s, n.Type, n.At-from)
}

// globals holds the nodes of the last global of a text against what must be, row by row, or the byte and the error.
func globals(t *testing.T, table string) {
	t.Helper()
	rows(table, func(s, want string) {
		c, f := check.Unit(unit(t, ahead+s+behind))
		if f.Code != api.OK {
			same(t, s, all(f.At-len(ahead), int(f.Code)), want)
			return
		}
		same(t, s, check.Check(c), api.Fault{})
		var l []string
		for _, n := range c.Globals[len(c.Globals)-1].Init {
			l = append(l, nodeTold(n, len(ahead)))
		}
		same(t, s, "["+strings.Join(l, " ")+"]", want)
	})
}

// 13.1: globals of numbers.
func TestGlobalNumbers(t *testing.T) {
	globals(t, `
		int x; => []
		int x = 5; => [5:i@8]
		int x = {5}; => [5:i@9]
		int x = 1 + 2 * 3; => [7:i@8]
		int x = -1; => [-1:i@8]
		int x = (7); => [7:i@9]
		unsigned x = -1; => [4294967295:u@13]
		int x = 4294967295u; => [-1:i@8]
		char x = 200; => [-56:c@9]
		char x = 'a'; => [97:c@9]
		short x = 65537; => [1:s@10]
		int x = sizeof(struct t); => [80:i@8]
		int x = (char)300; => [44:i@8]
		int x = 1 ? 2 : 3 / 0; => [2:i@8]
		int x = 0 && 1 / 0; => [0:i@8]
		volatile int x = 1; => [1:i@17]
		int x = I; => 8 133
		int x = 1 + I; => 8 133
		int x = 1 / 0; => 8 133
		int x = f(1); => 8 133
		int x = "a"[0]; => 8 133
		int x = sizeof I; => 8 133
		int x = (1, 2); => 9 133
		int x = I = 1; => 8 133
		int x = (int *)0 == 0; => 8 133
		int x = getchar(); => 8 133
		int x = A; => 8 131
		int x = &I; => 8 131
		int x = "a"; => 8 131
		int x = T; => 8 131
		int x = h(); => 8 131
		int x = (void *)0; => 8 131
		int x = setjmp(T.j); => 8 135
		int x = !setjmp(T.j); => 9 135
		int x = z; => 8 130
		int x = nobody; => 8 130
		int x = getchar; => 8 130
		int x = 1 + *I; => 12 131
		int x = sizeof(struct none); => 8 4
		int x = {1, 2}; => 0 131
		int x = {nobody, 2}; => 0 131
	`)
}

// 13.1: globals of pointers.
func TestGlobalPointers(t *testing.T) {
	globals(t, `
		int *x = 0; => [null:pi@9]
		int *x = (void *)0; => [null:pi@9]
		void *x = (void *)0; => [null:pv@10]
		int *x = (int *)0; => [null:pi@9]
		int *x = (int *)(void *)0; => [null:pi@9]
		int (*x)(int) = 0; => [null:pf(i)i@16]
		int *x = &I; => [&I:pi@10]
		int *x = &*&I; => [&I:pi@12]
		int *x = (&I); => [&I:pi@11]
		int *x = A; => [&A:pi@9]
		int *x = &x; => 9 131
		void *x = &x; => [&x:pv@11]
		int (*x)[3] = &A; => [&A:pa3:i@15]
		char (*x)[3] = B; => [&B:pa3:c@15]
		char *x = &T.c; => [&T:pc@11]
		struct t *x = &T; => [&T:pSt;@15]
		void *x = &I; => [&I:pv@11]
		void *x = A; => [&A:pv@10]
		char *x = (char *)&I; => [&I:pc@19]
		char *x = (char *)A; => [&A:pc@18]
		int *x = (int *)A; => [&A:pi@16]
		void *x = (int *)A; => [&A:pv@17]
		char *x = "abc"; => [&0:pc@10]
		void *x = "abc"; => [&0:pv@10]
		char (*x)[4] = &"abc"; => [&0:pa4:c@16]
		int *x = (int *)"abc"; => [&0:pi@16]
		int (*x)(int) = f; => [@f:pf(i)i@16]
		int (*x)(int) = &f; => [@f:pf(i)i@17]
		int (*x)(int) = *f; => [@f:pf(i)i@17]
		int (*x)(int) = (int (*)(int))f; => [@f:pf(i)i@30]
		struct none *x = (struct none *)A; => [&A:pSnone;@32]
		int *x = T.p; => 9 133
		int *x = A + 0; => 9 133
		int *x = &A[0]; => 9 133
		short *x = T.s; => 11 133
		short *x = &T.s[0]; => 11 133
		int **x = &T.p; => 10 133
		char *x = B[0]; => 10 133
		char *x = *B; => 10 133
		char *x = (char *)(void *)&I; => 10 133
		void *x = (char *)&I; => 10 133
		void *x = (char *)(int *)0; => 10 133
		void *x = (int *)0; => 10 133
		void *x = X; => 10 133
		int (*x)(int) = H; => 16 133
		int *x = 1 ? &I : 0; => 9 133
		int *x = (0, &I); => 10 133
		char *x = "a" + 0; => 10 133
		int *x = (I, 0); => 10 131
		int *x = 1; => 9 131
		int *x = 0u; => 9 131
		int *x = 1 - 1; => 9 131
		int *x = &T; => 9 131
		int *x = "a"; => 9 131
		int (*x)(int) = h; => 16 131
		int (*x)(int) = &I; => 16 131
		void *x = f; => 10 131
		int *x = (int *)1; => 9 131
		int (*x)(int) = z; => 16 130
		int *x = &none; => 10 130
		int *x = &1; => 9 132
		int *x = {0, 0}; => 0 131
	`)
}

// 13.1: globals of several scalars, in order, and of fewer values.
func TestGlobalObjects(t *testing.T) {
	globals(t, `
		int x[3] = {1, 2, 3}; => [1:i@12 2:i@15 3:i@18]
		int x[3] = {1, 2}; => [1:i@12 2:i@15]
		int x[3] = {1}; => [1:i@12]
		int x[3] = 1; => [1:i@11]
		int x[3] = {1, 2, 3, 4}; => 0 131
		char x[2][3] = {1, 2, 3, 300}; => [1:c@16 2:c@19 3:c@22 44:c@25]
		struct t x = {1, 2, 3, 0, f}; => [1:c@14 2:s@17 3:s@20 null:pi@23 @f:pf(i)i@26]
		struct t x = {1, 2, 3, &I, f, 0}; => 0 131
		struct t x = {1, 2, &I}; => 20 131
		struct t x = T; => 13 131
		struct t x[2] = {1, 2, 3, A, 0, 'a', -1}; => [1:c@17 2:s@20 3:s@23 &A:pi@26 null:pf(i)i@29 97:c@32 -1:s@37]
		jmp_buf x; => []
		jmp_buf x = 0; => 0 131
		jmp_buf x[2] = {0}; => 0 131
		jmp_buf x = T.j; => 0 131
		int x[6000] = {1}; => [1:i@15]
		char x[65536] = {1, 2}; => [1:c@17 2:c@20]
		int x[3] = A; => 11 131
		int *x[2] = {A, nobody}; => 16 130
		int x[3] = {1, A, nobody}; => 15 131
		int x[3] = {1, I, A}; => 15 133
		volatile int y, x[1] = {1, 2}; => 0 131
	`)
}

// 13.1: arrays of characters that have a string's bytes.
func TestGlobalTexts(t *testing.T) {
	globals(t, `
		char x[4] = "abc"; => [97:c@12 98:c@12 99:c@12 0:c@12]
		char x[3] = "abc"; => [97:c@12 98:c@12 99:c@12]
		char x[9] = "a\xff"; => [97:c@12 -1:c@12 0:c@12]
		char x[3] = {"ab"}; => [97:c@13 98:c@13 0:c@13]
		char x[1] = ""; => [0:c@12]
		char x[2] = "abc"; => 0 3
		char x[3] = {"ab", 1}; => 13 131
		char x[3] = {"ab", "c"}; => 13 131
		char x[2][3] = "ab"; => 15 131
		char x[2][3] = {"ab"}; => 16 131
		short x[3] = "ab"; => 13 131
		char *x[3] = {"ab", "cd"}; => [&0:pc@14 &1:pc@20]
		char *x[1] = "ab"; => [&0:pc@13]
		char x = "a"; => 9 131
		struct t x = {"a"}; => 14 131
		char x[4] = (char *)"abc"; => 12 131
	`)
	text := strings.Repeat("a", api.MaxStr)
	u := api.Unit{Globals: []api.Global{{Var: api.Var{Name: "x", Type: "a4097:c"}, Init: []api.Tree{{{Kind: api.NString, At: 7, Text: text}}}}}, Funcs: unit(t, "int main() { return 0; }").Funcs}
	c, f := check.Unit(u)
	same(t, "a long string", all(f, len(c.Globals[0].Init), c.Globals[0].Init[4096], check.Check(c), len(c.Strings)), all(api.Fault{}, 4097, api.Node{Kind: api.KInt, At: 7, Type: "c"}, api.Fault{}, 0))
}

// 13.1: strings have numbers in the order in which they are come to; none are joined, and none counts whose size alone is asked for, or that fills an array.
func TestStrings(t *testing.T) {
	c := core(t, `
		char *a = "1", b[3] = "no", *c[2] = {"2", "1"};
		int g(char *a);
		int main() { g("3"); g("4" + sizeof "no"); do g("5"); while (g("6")); for (g("7"); g("8"); g("9")) g("10"); return g("3"); }
		int g(char *a) { a = "11"; return 0; }
	`)
	same(t, "strings", all(c.Strings), all([]string{"1", "2", "1", "11", "3", "4", "5", "6", "7", "8", "9", "10", "3"}))
	same(t, "functions", all(c.Funcs[0].Name, c.Funcs[1].Name), "g main")
}

// 13.1, {0, ErrLong}: more strings than there may be, behind all else that is wrong.
func TestTooManyStrings(t *testing.T) {
	part := func(name string, n int) api.Func {
		var body api.Tree
		for range n {
			body = append(body, api.Node{Kind: api.NString, At: 5}, api.Node{Kind: api.NExpr, N: 1})
		}
		return api.Func{Name: name, Type: "f()i", Body: append(body, api.Node{Kind: api.NBlock, N: n})}
	}
	u := func(counts ...int) api.Unit {
		u := api.Unit{Globals: []api.Global{{Var: api.Var{Name: "x", Type: "pc"}, Init: []api.Tree{{{Kind: api.NString}}}}}}
		for i, n := range counts {
			u.Funcs = append(u.Funcs, part([]string{"main", "f", "g"}[i], n))
		}
		return u
	}
	c, f := check.Unit(u(2000, 2000, 95))
	same(t, "4096 strings", all(f, len(c.Strings), check.Check(c)), all(api.Fault{}, 4096, api.Fault{}))
	same(t, "the last string", root(c.Funcs[2].Body[:len(c.Funcs[2].Body)-3]).Int, 4095)
	c, f = check.Unit(u(2000, 2000, 96))
	same(t, "4097 strings", all(f, c), all(api.Fault{Code: api.ErrLong}, api.Core{}))
	x := u(2000, 2000, 96)
	x.Funcs[0].Name = "mine"
	_, f = check.Unit(x)
	same(t, "4097 strings, and no main", f, api.Fault{Code: api.ErrMain})
	x = u(2000, 2000, 96)
	last := x.Funcs[2].Body
	last[0] = api.Node{Kind: api.NName, At: 9, Text: "none"}
	_, f = check.Unit(x)
	same(t, "4097 strings, and a name", f, api.Fault{At: 9, Code: api.ErrName})
}

// root is the node of a whole tree.
func root(t api.Tree) api.Node { return t[len(t)-1] }

// 13.1: what a core program has besides its functions' bodies.
func TestProgram(t *testing.T) {
	s := "struct t { int a; }; struct w { struct t t; char c; }; volatile int x = 1; struct w y; int f(char a, volatile int b); int main(void) { volatile char c; { int *f; struct w g; } return f(1, 2); } void g(void) { } int f(char a, volatile int b) { int a2; return a; } int unused(void);"
	c := core(t, s)
	same(t, "structs", all(c.Structs), all(unit(t, s).Structs))
	same(t, "globals", all(c.Globals), all([]api.CoreVar{{Name: "x", Type: "i", Init: []api.Node{{Kind: api.KInt, At: strings.Index(s, "1;"), Int: 1, Type: "i"}}}, {Name: "y", Type: "Sw;"}}))
	var l []string
	for _, f := range c.Funcs {
		l = append(l, all(f.Name, f.Type, f.Slots))
	}
	same(t, "functions", strings.Join(l, "\n"), strings.Join([]string{
		all("f", "f(c,i)i", []api.Slot{{Name: "a", Type: "c", Param: true}, {Name: "b", Type: "i", Volatile: true, Param: true}, {Name: "a2", Type: "i"}}),
		all("main", "f()i", []api.Slot{{Name: "c", Type: "c", Volatile: true}, {Name: "f", Type: "pi"}, {Name: "g", Type: "Sw;"}}),
		all("g", "f()v", []api.Slot{}),
	}, "\n"))
	same(t, "f's answer", told(slices.Clone(c.Funcs[0].Body), c.Funcs[0].Slots, false), "(Block Decl-a2 (Return (conv:i (load:c &a))))")
}
