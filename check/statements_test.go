package check_test

import (
	"strings"
	"testing"

	"catapult/api"
	"catapult/check"
)

// inMain is the text of a program whose main has some statements in a block, and where these begin.
func inMain(s string) (string, int) {
	head := "struct t { char c; int i; }; struct none *X; struct t *N; int main() { char c; int i; unsigned u; int *p; int a[3]; struct t t; jmp_buf j; {"
	return head + s + "} return 0; } void h(void) { } int f(int a) { return a; }", len(head)
}

// statements holds what becomes of statements in main against what must be, row by row: the core trees, or the byte (from where they begin) and the error.
func statements(t *testing.T, table string) {
	t.Helper()
	rows(table, func(s, want string) {
		text, from := inMain(s)
		c, f := check.Unit(unit(t, text))
		if f.Code != api.OK {
			same(t, s, all(f.At-from, int(f.Code)), want)
			return
		}
		same(t, s, check.Check(c), api.Fault{})
		main := body(t, c, "main")
		got := told(main.Body, main.Slots, false)
		_, got, _ = strings.Cut(got, "Decl-j (Block ")
		same(t, s, strings.TrimSuffix(got, ") (Return 0i))"), want)
	})
}

// 13.1: expressions as statements, blocks, declarations.
func TestSimpleStatements(t *testing.T) {
	statements(t, `
		i; => (Expr (load:i &i))
		i = 1; => (Expr (store:i &i 1i))
		t; => (Expr &t)
		h(); => (Expr (call:v @h))
		j; => (Expr &j)
		h; => (Expr @h)
		getchar(); => (Expr built-getchar:i)
		; => Block
		{ } { i; { ; c; } } => Block (Block (Expr (load:i &i)) (Block Block (Expr (load:c &c))))
		int x; => Decl-x
		char x = i; => (Decl-x (conv:c (load:i &i)))
		int *x = 0, y = 1; => (Decl-x null:pi) (Decl-y 1i)
		void *x = a; => (Decl-x (conv:pv (field0:pi &a)))
		int x[2], y; => Decl-x Decl-y
		struct t x; jmp_buf y; => Decl-x Decl-y
		struct t x = t; => Decl-x (Expr (copy:pSt; &x &t))
		struct t x = *N, y = x; => Decl-x (Expr (copy:pSt; &x (load:pSt; &N))) Decl-y (Expr (copy:pSt; &y &x))
		volatile struct t x = i ? t : *N; => Decl-x (Expr (copy:pSt; &x (cond:pSt; (load:i &i) &t (load:pSt; &N))))
		int x = p; => 4 131
		int *x = 1; => 5 131
		int x = t; => 4 131
		int x = h(); => 4 131
		struct t x = 1; => 9 131
		struct t x = N; => 9 131
		struct t x = h(); => 9 131
		int x[2] = p; => 4 131
		int x[2] = a; => 4 131
		char x[2] = "a"; => 5 131
		jmp_buf x = j; => 8 131
		struct none x; => 12 4
		struct none x[2]; => 12 4
		struct t x[9000]; => 9 3
		struct none x = *X; => 12 4
		int x[1], y = &1; => 14 132
	`)
}

// 13.1: what is decided by a value.
func TestChosenStatements(t *testing.T) {
	statements(t, `
		if (i) c; => (If (load:i &i) (Expr (load:c &c)))
		if (p) c; else u; => (If (load:pi &p) (Expr (load:c &c)) (Expr (load:u &u)))
		if (c) ; => (If (load:c &c) Block)
		if (a) if (h) ; else { } => (If (field0:pi &a) (If @h Block Block))
		if (t) ; => 0 131
		if (h()) ; => 0 131
		if (i) ; else if (t) ; => 14 131
		while (i) c; => (Loop None (load:i &i) None (Expr (load:c &c)))
		while (p) { } => (Loop None (load:pi &p) None Block)
		while (t) ; => 0 131
		do i; while (c); => (Loop1 None (load:c &c) None (Expr (load:i &i)))
		do ; while (j); => (Loop1 None &j None Block)
		do ; while (h()); => 0 131
		for (;;) ; => (Loop None 1i None Block)
		for (i = 0; i < 3; i++) c; => (Loop (Expr (store:i &i 0i)) (lt:i (load:i &i) 3i) (Expr (incr1-post:i &i)) (Expr (load:c &c)))
		for (h(); ; h()) ; => (Loop (Expr (call:v @h)) 1i (Expr (call:v @h)) Block)
		for (t; p; t) ; => (Loop (Expr &t) (load:pi &p) (Expr &t) Block)
		for (int x = 0; x; ) c; => (Loop (Decl-x 0i) (load:i &x) None (Expr (load:c &c)))
		for (int x[3]; ; ) ; => (Loop Decl-x 1i None Block)
		for (struct t x = t; ; ) ; => (Loop (Block Decl-x (Expr (copy:pSt; &x &t))) 1i None Block)
		for (struct t x; ; ) ; => (Loop Decl-x 1i None Block)
		for (; t; ) ; => 0 131
		for (; h(); ) ; => 0 131
		for (int x = p; ; ) ; => 9 131
	`)
}

// 13.1: switches.
func TestSwitches(t *testing.T) {
	statements(t, `
		switch (i) { } => (Switch (load:i &i) Block)
		switch (c) ; => (Switch (conv:i (load:c &c)) Block)
		switch (u) { } => (Switch (conv:i (load:u &u)) Block)
		switch (i) { i; case 1: c; break; default: u; } => (Switch (load:i &i) (Block (Expr (load:i &i)) (Case1 (Expr (load:c &c))) Break (Other (Expr (load:u &u)))))
		switch (i) { case 1: case -2: default: case 'a': ; } => (Switch (load:i &i) (Block (Case1 (Case-2 (Other (Case97 Block))))))
		switch (i) { case 4294967295u: ; case 2147483648: ; } => (Switch (load:i &i) (Block (Case-1 Block) (Case-2147483648 Block)))
		switch (i) { case (char)200: ; case sizeof(int): ; case 1 ? 2 : 3 / 0: ; } => (Switch (load:i &i) (Block (Case-56 Block) (Case4 Block) (Case2 Block)))
		switch (i) { case 0: switch (c) { case 0: default: ; } default: ; } => (Switch (load:i &i) (Block (Case0 (Switch (conv:i (load:c &c)) (Block (Case0 (Other Block))))) (Other Block)))
		switch (i) { case 1: if (i) break; else { break; } } => (Switch (load:i &i) (Block (Case1 (If (load:i &i) Break (Block Break)))))
		switch (p) { } => 0 131
		switch (t) { } => 0 131
		switch (h()) { } => 0 131
		switch (i) i; => 0 134
		switch (i) if (c) ; => 0 134
		switch (i) case 1: ; => 0 134
		switch (i) default: ; => 0 134
		switch (i) default: case 1: { } => 0 134
		switch (i) while (c) { case 1: ; } => 23 134
		switch (i) { { case 1: ; } } => 15 134
		switch (i) { if (c) case 1: ; } => 20 134
		switch (i) { case 1: { default: ; } } => 23 134
		switch (i) { case 1: while (c) default: ; } => 31 134
		switch (i) { for (;;) case 1: ; } => 22 134
		case 1: ; => 0 134
		default: ; => 0 134
		while (i) { case 1: ; } => 12 134
		switch (i) { case i: ; } => 18 133
		switch (i) { case 1 + c: ; } => 18 133
		switch (i) { case 1 / 0: ; } => 18 133
		switch (i) { case "a" - "a": ; } => 18 133
		switch (i) { case f(1): ; } => 18 133
		switch (i) { case sizeof i: ; } => 18 133
		switch (i) { case (void *)0: ; } => 18 133
		switch (i) { case 1: ; case 1: ; } => 23 137
		switch (i) { case 1: case 2: case 1: ; } => 29 137
		switch (i) { case 1: case 1: ; } => 21 137
		switch (i) { case -1: ; case 4294967295u: ; } => 24 137
		switch (i) { case 1: ; case 2: case 1: ; } => 31 137
		switch (i) { case 2: case 1: ; case 1: ; } => 31 137
		switch (i) { default: ; default: ; } => 24 137
		switch (i) { default: default: ; } => 22 137
		switch (i) { default: case 1: default: ; } => 30 137
		switch (i) { default: ; case 1: default: ; } => 32 137
		switch (i) { case 0: default: ; } => (Switch (load:i &i) (Block (Case0 (Other Block))))
	`)
}

// 13.1: statements that leave others.
func TestLeavingStatements(t *testing.T) {
	statements(t, `
		while (i) break; => (Loop None (load:i &i) None Break)
		while (i) { continue; } => (Loop None (load:i &i) None (Block Cont))
		do if (c) break; else continue; while (i); => (Loop1 None (load:i &i) None (If (load:c &c) Break Cont))
		for (;;) { break; continue; } => (Loop None 1i None (Block Break Cont))
		while (i) switch (c) { default: continue; break; } => (Loop None (load:i &i) None (Switch (conv:i (load:c &c)) (Block (Other Cont) Break)))
		switch (c) { break; } => (Switch (conv:i (load:c &c)) (Block Break))
		break; => 0 134
		continue; => 0 134
		{ if (i) break; } => 9 134
		if (i) continue; => 7 134
		switch (i) { continue; } => 13 134
		switch (i) { default: continue; } => 22 134
		while (i) ; break; => 12 134
		while (i) { } { continue; } => 16 134
		return i; => (Return (load:i &i))
		return c; => (Return (conv:i (load:c &c)))
		return; => 0 131
		return p; => 0 131
		return t; => 0 131
		return h(); => 0 131
	`)
}

// 13.1: returns of functions that answer nothing, pointers, small numbers.
func TestReturns(t *testing.T) {
	for s, want := range map[string]string{
		"void f(void) { return; }":                       "(Block Return)",
		"void f(void) { }":                               "Block",
		"int *f(int *a) { return a; }":                   "(Block (Return (load:pi &a)))",
		"int *f(void) { return 0; }":                     "(Block (Return null:pi))",
		"char f(int a) { return a; }":                    "(Block (Return (conv:c (load:i &a))))",
		"void *f(int *a) { if (a) return a; return 0; }": "(Block (If (load:pi &a) (Return (conv:pv (load:pi &a)))) (Return null:pv))",
		"void f(void) { return 1; }":                     "15 131",
		"void f(void) { return f(); }":                   "15 131",
		"void f(void) { return (void)1; }":               "15 131",
		"int *f(void) { return 1; }":                     "15 131",
		"int f(void) { return; }":                        "14 131",
		"char *f(int *a) { return a; }":                  "18 131",
	} {
		c, fault := check.Unit(unit(t, s+" int main() { return 0; }"))
		if fault.Code != api.OK {
			same(t, s, all(fault.At, int(fault.Code)), want)
			continue
		}
		f := body(t, c, "f")
		same(t, s, told(f.Body, f.Slots, false), want)
	}
}

// 13.1: where setjmp may stand.
func TestSetjmp(t *testing.T) {
	statements(t, `
		setjmp(j); => (Expr (built-setjmp:i &j))
		(void)setjmp(j); => (Expr (conv:v (built-setjmp:i &j)))
		for (setjmp(j); ; ) ; => (Loop (Expr (built-setjmp:i &j)) 1i None Block)
		for (; ; setjmp(j)) ; => (Loop None 1i (Expr (built-setjmp:i &j)) Block)
		for (; ; (void)setjmp(j)) ; => (Loop None 1i (Expr (conv:v (built-setjmp:i &j))) Block)
		if (setjmp(j)) ; => (If (built-setjmp:i &j) Block)
		while (setjmp(&j)) ; => (Loop None (built-setjmp:i &j) None Block)
		do ; while (setjmp(j)); => (Loop1 None (built-setjmp:i &j) None Block)
		for (; setjmp(j); ) ; => (Loop None (built-setjmp:i &j) None Block)
		switch (setjmp(j)) { } => (Switch (built-setjmp:i &j) Block)
		if (!setjmp(j)) ; => (If (not:i (built-setjmp:i &j)) Block)
		while (!setjmp(j)) ; => (Loop None (not:i (built-setjmp:i &j)) None Block)
		do ; while (!setjmp(j)); => (Loop1 None (not:i (built-setjmp:i &j)) None Block)
		for (; !setjmp(j); ) ; => (Loop None (not:i (built-setjmp:i &j)) None Block)
		switch (!setjmp(j)) { } => (Switch (not:i (built-setjmp:i &j)) Block)
		if (setjmp(j) < 3) ; => (If (lt:i (built-setjmp:i &j) 3i) Block)
		if (3 < setjmp(j)) ; => (If (lt:i 3i (built-setjmp:i &j)) Block)
		while (setjmp(j) <= -1) ; => (Loop None (le:i (built-setjmp:i &j) (neg:i 1i)) None Block)
		do ; while (1 - 1 > setjmp(j)); => (Loop1 None (not:i (le:i (sub:i 1i 1i) (built-setjmp:i &j))) None Block)
		for (; setjmp(j) >= sizeof(int); ) ; => (Loop None (not:i (lt:i (conv:u (built-setjmp:i &j)) 4u)) None Block)
		switch (setjmp(j) == (char)1) { } => (Switch (eq:i (built-setjmp:i &j) (conv:i (conv:c 1i))) Block)
		if (0 != setjmp(j)) ; => (If (ne:i 0i (built-setjmp:i &j)) Block)
		if (setjmp(p ? &j : &j)) ; => (If (built-setjmp:i (cond:pj (load:pi &p) &j &j)) Block)
		i = setjmp(j); => 4 135
		if (setjmp(j) + 1) ; => 4 135
		if (!!setjmp(j)) ; => 6 135
		if (!(setjmp(j) == 0)) ; => 6 135
		if (!setjmp(j) == 0) ; => 5 135
		if ((setjmp(j) == 0) == 0) ; => 5 135
		if (setjmp(j) == i) ; => 4 135
		if (i < setjmp(j)) ; => 8 135
		if (setjmp(j) == 1 / 0) ; => 4 135
		if (setjmp(j) == sizeof i) ; => 4 135
		if (setjmp(j) == setjmp(j)) ; => 4 135
		if (setjmp(j) && 1) ; => 4 135
		if (1 || setjmp(j)) ; => 9 135
		if (setjmp(j) & 1) ; => 4 135
		if (-setjmp(j)) ; => 5 135
		if (~setjmp(j)) ; => 5 135
		if ((int)setjmp(j)) ; => 9 135
		if ((int)setjmp(j) == 0) ; => 9 135
		if ((i, setjmp(j))) ; => 8 135
		if (setjmp(j) ? 1 : 0) ; => 4 135
		if (i ? setjmp(j) : 0) ; => 8 135
		if (setjmp(j) == 0 ? 1 : 0) ; => 4 135
		switch (setjmp(j) + 0) { } => 8 135
		(int)setjmp(j); => 5 135
		(void)(void)setjmp(j); => 12 135
		(void)!setjmp(j); => 7 135
		!setjmp(j); => 1 135
		setjmp(j) == 0; => 0 135
		for (; ; !setjmp(j)) ; => 10 135
		for (; (void)setjmp(j), 1; ) ; => 13 135
		if ((void)setjmp(j)) ; => 10 135
		setjmp(j), i; => 0 135
		i, setjmp(j); => 3 135
		int x = setjmp(j); => 8 135
		return setjmp(j); => 7 135
		f(setjmp(j)); => 2 135
		putchar(setjmp(j)); => 8 135
		a[setjmp(j)]; => 2 135
		*(p + setjmp(j)); => 6 135
		i += setjmp(j); => 5 135
		sizeof setjmp(j); => 7 135
		switch (i) { case setjmp(j): ; } => 18 135
		setjmp(i); => 0 131
		setjmp(); => 0 131
		setjmp(j, j); => 0 131
		i = setjmp(i); => 4 131
		i = setjmp; => 4 130
		(*setjmp)(j); => 2 130
		{ int setjmp = 1; i = setjmp; } => (Block (Decl-setjmp 1i) (Expr (store:i &i (load:i &setjmp))))
		{ int (*setjmp)(int) = f; i = setjmp(1); } => (Block (Decl-setjmp @f) (Expr (store:i &i (call:i (load:pf(i)i &setjmp) 1i))))
	`)
}

// 13.1: At of each node of statements.
func TestPlacesOfStatements(t *testing.T) {
	for s, want := range map[string]string{
		"while (c) break;":                   "(Loop@0 None@0 (load:c@7 &c@7) None@0 Break@10)",
		"do ; while (c);":                    "(Loop1@0 None@0 (load:c@12 &c@12) None@0 Block@3)",
		"for (c; ; &*p) ;":                   "(Loop@0 (Expr@5 (load:c@5 &c@5)) 1i@-1 (Expr@12 (load:pi@12 &p@12)) Block@15)",
		"for (; c; ) ;":                      "(Loop@0 None@-1 (load:c@7 &c@7) None@-1 Block@12)",
		"for (struct t x = t; ; ) ;":         "(Loop@0 (Block@14 Decl-x@14 (Expr@14 (copy:pSt;@14 &x@14 &t@18))) 1i@-1 None@-1 Block@25)",
		"struct t x = t;":                    "Decl-x@9 (Expr@9 (copy:pSt;@9 &x@9 &t@13))",
		"char x = i;":                        "(Decl-x@5 (conv:c@9 (load:i@9 &i@9)))",
		"if (i) ; else c;":                   "(If@0 (load:i@4 &i@4) Block@7 (Expr@14 (load:c@14 &c@14)))",
		"switch (c) { case 1: default: c; }": "(Switch@0 (conv:i@8 (load:c@8 &c@8)) (Block@11 (Case1@13 (Other@21 (Expr@30 (load:c@30 &c@30))))))",
		"{ return c; }":                      "(Block@0 (Return@2 (conv:i@9 (load:c@9 &c@9))))",
		"&*p;":                               "(Expr@0 (load:pi@2 &p@2))",
	} {
		text, from := inMain(s)
		main := body(t, core(t, text), "main")
		for i := range main.Body {
			// What is not there stands at no place in the text.
			main.Body[i].At = max(main.Body[i].At-from, -1)
		}
		got := told(main.Body, main.Slots, true)
		_, got, _ = strings.Cut(got, "Decl-j@-1 (Block@-1 ")
		same(t, s, got[:strings.LastIndex(got, ") (Return@")], want)
	}
}
