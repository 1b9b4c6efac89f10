package parse_test

import (
	"strings"
	"testing"

	"catapult/api"
	"catapult/parse"
)

// stmt reads a statement that is right.
func stmt(t *testing.T, s string) api.Tree {
	t.Helper()
	x, f := parse.Stmt(s)
	same(t, s, f, api.Fault{})
	return x
}

// 10.3, Stmt: each rule of the grammar, and what it means.
func TestStatements(t *testing.T) {
	for s, want := range map[string]string{
		";": "block", "{}": "block", "{;}": "(block block)", "{{}{}}": "(block block block)", "a;": "(expr a)", "a, b = c;": "(expr (, a (= b c)))", "{a; b;}": "(block (expr a) (expr b))", "(int)a;": "(expr (<i> a))", "sizeof (int);": "(expr sizeof<i>)",
		"if (a) ;": "(if a block)", "if (a, b) c;": "(if (, a b) (expr c))", "if (a = b) c; else d;": "(if (= a b) (expr c) (expr d))", "if (a) {} else {}": "(if a block block)", "if (a) b; else if (c) d; else e;": "(if a (expr b) (if c (expr d) (expr e)))", "if (a) { if (b) c; } else d;": "(if a (block (if b (expr c))) (expr d))",
		"if (a) while (b) if (c) d; else e;": "(if a (while b (if c (expr d) (expr e))))", "if (a) for (;;) if (b) c; else d;": "(if a (for none none none (if b (expr c) (expr d))))", "if (a) switch (b) if (c) d; else e;": "(if a (switch b (if c (expr d) (expr e))))", "if (a) case 1: if (b) c; else d;": "(if a (case 1 (if b (expr c) (expr d))))", "if (a) default: if (b) c; else d;": "(if a (default (if b (expr c) (expr d))))",
		"if (a) do if (b) c; while (d); else e;": "(if a (do (if b (expr c)) d) (expr e))", "if (a) if (b) c; else d; else e;": "(if a (if b (expr c) (expr d)) (expr e))", "if (a) if (b) if (c) d; else e;": "(if a (if b (if c (expr d) (expr e))))", "{ if (a) b; if (c) d; else e; }": "(block (if a (expr b)) (if c (expr d) (expr e)))",
		"while (a) ;": "(while a block)", "while (a, b) c;": "(while (, a b) (expr c))", "do ; while (a);": "(do block a)", "do a; while (b, c);": "(do (expr a) (, b c))", "do while (a) ; while (b);": "(do (while a block) b)", "do do a; while (b); while (c);": "(do (do (expr a) b) c)", "while (a) do b; while (c);": "(while a (do (expr b) c))",
		"for (;;) ;": "(for none none none block)", "for (a;;) ;": "(for (expr a) none none block)", "for (;a;) ;": "(for none a none block)", "for (;;a) ;": "(for none none a block)", "for (a, b; c, d; e, f) g;": "(for (expr (, a b)) (, c d) (, e f) (expr g))", "for (int i = 0; i < 3; i++) f(i);": "(for (<i>i 0) (< i 3) (_++ i) (expr (call f i)))", "for (volatile char *p;;) {}": "(for volatile<pc>p none none block)", "for (a = 1; ; ) ;": "(for (expr (= a 1)) none none block)", "for ((a);;) ;": "(for (expr a) none none block)", "for (sizeof (int);;) ;": "(for (expr sizeof<i>) none none block)",
		"switch (a) ;": "(switch a block)", "switch (a, b) { case 1: a; break; case 'x': ; default: b; }": "(switch (, a b) (block (case 1 (expr a)) break (case 120 block) (default (expr b))))", "case 1: case 2: a;": "(case 1 (case 2 (expr a)))", "case a ? b : c: d;": "(case (?: a b c) (expr d))", "case a || b: ;": "(case (|| a b) block)", "case (a, b): ;": "(case (, a b) block)", "case (a = b): ;": "(case (= a b) block)", "case a ? b, c : d ? e : f: ;": "(case (?: a (, b c) (?: d e f)) block)", "default: default: ;": "(default (default block))", "case 1: { int a; }": "(case 1 (block <i>a))",
		"break;": "break", "continue;": "continue", "return;": "return", "return a;": "(return a)", "return a, b;": "(return (, a b))", "return (a);": "(return a)", "return a = b;": "(return (= a b))",
		"int a;": "<i>a", "volatile int a;": "volatile<i>a", "int a = b;": "(<i>a b)", "int a = b = c;": "(<i>a (= b c))", "int a = (b, c);": "(<i>a (, b c))", "int a[2] = 1;": "(<a2:i>a 1)", `char a[3] = "ab";`: `(<a3:c>a "ab")`, "int (*a)(int) = b;": "(<pf(i)i>a b)", "void *a;": "<pv>a", "void (*a)(void);": "<pf()v>a", "struct s a;": "<Ss;>a", "struct s *a = &b;": "(<pSs;>a (& b))", "jmp_buf a;": "<j>a", "int a = b ? c : d;": "(<i>a (?: b c d))",
		"{ int a, *b, c[2]; }": "(block <i>a <pi>b <a2:i>c)", "{ int a = 1, b = 2; }": "(block (<i>a 1) (<i>b 2))", "{ volatile int a, *b = &a; }": "(block volatile<i>a (volatile<pi>b (& a)))", "{ int a; a; int b; b; }": "(block <i>a (expr a) <i>b (expr b))", "{ int a = 1, b, c = a; { char d; } }": "(block (<i>a 1) <i>b (<i>c a) (block <c>d))",
	} {
		same(t, s, told(stmt(t, s), false), want)
	}
}

// 10: places of statements; of what is declared it is that of the name, and what is not there has none.
func TestPlacesOfStatements(t *testing.T) {
	for s, want := range map[string]string{
		" ;": "block@1", " { ; }": "(block@1 block@3)", " a + b ;": "(expr@1 (+@1 a@1 b@5))", "(a) ;": "(expr@0 a@1)", "((a) + b) ;": "(expr@0 (+@1 a@2 b@7))", " if ((a)) b; else (c);": "(if@1 a@6 (expr@10 b@10) (expr@18 c@19))", " while (a) ;": "(while@1 a@8 block@11)", " do a; while ((b));": "(do@1 (expr@4 a@4) b@15)",
		" for (;;) ;": "(for@1 none@0 none@0 none@0 block@10)", " for ((a); (b); (c)) d;": "(for@1 (expr@6 a@7) b@12 c@17 (expr@21 d@21))", " for (int *(i) = 0; ; ) ;": "(for@1 (<pi>i@12 0@17) none@0 none@0 block@24)", " switch (a) { case (1) + 2: b; default: ; }": "(switch@1 a@9 (block@12 (case@14 (+@19 1@20 2@25) (expr@28 b@28)) (default@31 block@40)))",
		" { break; continue; return; return (a); }": "(block@1 break@3 continue@10 return@20 (return@28 a@36))", " volatile struct s *(a) = (b);": "(volatile<pSs;>a@21 b@27)", "{ int a, (b) = 1, *c, (*d)(int a, int); }": "(block@0 <i>a@6 (<i>b@10 1@15) <pi>c@19 <pf(i,i)i>d@24)",
	} {
		same(t, s, told(stmt(t, s), true), want)
	}
}

// 10.3, Stmt: what tree.Check tells of what was read.
func TestWrongStatements(t *testing.T) {
	for s, want := range map[string]api.Errno{
		" int a[0];": api.ErrTree, "struct none a;": api.OK, "int a[65536];": api.ErrTree, "char a[65536];": api.OK, "char a[65537];": api.ErrTree, "int (*a)(int, int, int, int, int, int, int, int, int);": api.ErrTree, " f(1,2,3,4,5,6,7,8,9);": api.ErrTree,
		strings.Repeat("{", 48) + strings.Repeat("}", 48): api.OK, strings.Repeat("{", 49) + strings.Repeat("}", 49): api.ErrLong, " " + strings.Repeat("if (a) ; else ", 47) + ";": api.OK, strings.Repeat("if (a) ; else ", 48) + ";": api.ErrLong,
		"{" + strings.Repeat(";", 4095) + "}": api.OK, " {" + strings.Repeat(";", 4096) + "}": api.ErrLong,
	} {
		x, f := parse.Stmt(s)
		same(t, s, all(f, len(x) > 0), all(api.Fault{Code: want}, want == api.OK))
	}
}
