package parse_test

import (
	"strconv"
	"strings"
	"testing"

	"catapult/api"
	"catapult/parse"
)

// toldVar is a variable: volatile, if it is, its type and its name.
func toldVar(v api.Var) string {
	s := "<" + string(v.Type) + ">" + v.Name
	if v.Volatile {
		return "volatile" + s
	}
	return s
}

// toldUnit is what a unit has, with its places.
func toldUnit(u api.Unit) string {
	var l []string
	for _, s := range u.Structs {
		var members []string
		for _, m := range s.Members {
			members = append(members, toldVar(api.Var{Name: m.Name, Type: m.Type}))
		}
		l = append(l, "struct "+s.Name+" "+strings.Join(members, " "))
	}
	for _, g := range u.Globals {
		s := strconv.Itoa(g.At) + ": " + toldVar(g.Var)
		for _, x := range g.Init {
			s += " = " + told(x, true)
		}
		l = append(l, s)
	}
	for _, f := range u.Funcs {
		s := strconv.Itoa(f.At) + ": <" + string(f.Type) + ">" + f.Name
		for _, v := range f.Params {
			s += " " + toldVar(v)
		}
		if len(f.Body) > 0 {
			s += " " + told(f.Body, true)
		}
		l = append(l, s)
	}
	return strings.Join(l, "; ")
}

// 10.2: structs, globals and functions, each in the order in which they stand, with their places.
func TestUnits(t *testing.T) {
	for s, want := range map[string]string{
		"": "", " // a\n": "",
		"struct s { int a; };": "struct s <i>a", " struct s { int a, *b, (*c)(int); char d[2]; struct s *e; jmp_buf f; } ; struct t { struct s a[2]; void *b, (*c)(void); };": "struct s <i>a <pi>b <pf(i)i>c <a2:c>d <pSs;>e <j>f; struct t <a2:Ss;>a <pv>b <pf()v>c",
		"int a;": "0: <i>a", " int a, *b, c[2];": "1: <i>a; 1: <pi>b; 1: <a2:i>c", " volatile int a, *b; int c;": "1: volatile<i>a; 1: volatile<pi>b; 21: <i>c", "void *a, (*b)(void), *c[2];": "0: <pv>a; 0: <pf()v>b; 0: <a2:pv>c", "struct s { int a; }; struct s b, *c;": "struct s <i>a; 21: <Ss;>b; 21: <pSs;>c", "struct none *a;": "0: <pSnone;>a", "jmp_buf a, b[2];": "0: <j>a; 0: <a2:j>b", "short int a; unsigned int b; short c; unsigned d;": "0: <s>a; 13: <u>b; 29: <s>c; 38: <u>d", "int (a), (*(b)), ((c))[2];": "0: <i>a; 0: <pi>b; 0: <a2:i>c",
		"int a = 1;": "0: <i>a = 1@8", "int a = b = c;": "0: <i>a = (=@8 b@8 c@12)", "int a = (b, c), d = 2;": "0: <i>a = (,@9 b@9 c@12); 0: <i>d = 2@20", "int a = {1};": "0: <i>a = 1@9", "int a = {1,};": "0: <i>a = 1@9", "int a = {1, 2};": "0: <i>a = 1@9 = 2@12", "int a[2] = {1, b = 2,}, c;": "0: <a2:i>a = 1@12 = (=@15 b@15 2@19); 0: <i>c", "int a[2] = 1;": "0: <a2:i>a = 1@11", `char a[3] = "ab";`: `0: <a3:c>a = "ab"@12`, `char a[3] = {"ab"}, *b = "c" "d";`: `0: <a3:c>a = "ab"@13; 0: <pc>b = "cd"@25`, "int (*a)(int) = b, c;": "0: <pf(i)i>a = b@16; 0: <i>c", "int a = {(b, c), d ? e : f};": "0: <i>a = (,@10 b@10 c@13) = (?:@17 d@17 e@21 f@25)",
		"int f();": "0: <f()i>f", "int f(void);": "0: <f()i>f", " int f(int a, char *b);": "1: <f(i,pc)i>f <i>a <pc>b", "int f(int, char *);": "0: <f(i,pc)i>f <i> <pc>", "int f(int a, int);": "0: <f(i,i)i>f <i>a <i>", "int f(volatile int a, volatile int);": "0: <f(i,i)i>f <i>a <i>", "void f(int a[2], int b(int), jmp_buf c, int d[2][3], void e(void), jmp_buf g[2]);": "0: <f(pi,pf(i)i,pj,pa3:i,pf()v,pj)v>f <pi>a <pf(i)i>b <pj>c <pa3:i>d <pf()v>e <pj>g", "struct none *f(struct none *);": "0: <f(pSnone;)pSnone;>f <pSnone;>", "int (f)(int a);": "0: <f(i)i>f <i>a", "int ((f)(int a));": "0: <f(i)i>f <i>a", "int (*f(int a))(char b);": "0: <f(i)pf(c)i>f <i>a", "int (*f(int a))[2];": "0: <f(i)pa2:i>f <i>a", "int (*(*f(int a))(char b))(short c);": "0: <f(i)pf(c)pf(s)i>f <i>a", "int *((f))(int a);": "0: <f(i)pi>f <i>a", "int (*(f)(int (a), int (*(b))))(int c);": "0: <f(i,pi)pf(i)i>f <i>a <pi>b",
		"int (*f)(int a);": "0: <pf(i)i>f", "int (*f[2])(int a);": "0: <a2:pf(i)i>f", "int (*(*f)(int a))(char b);": "0: <pf(i)pf(c)i>f",
		"int f() {}": "0: <f()i>f block@8", " int f(int a, volatile char *b) { return a; }": "1: <f(i,pc)i>f <i>a volatile<pc>b (block@32 (return@34 a@41))", "void f(volatile int a[2], volatile jmp_buf b) ;void g(volatile int a[2], volatile jmp_buf b) {;}": "0: <f(pi,pj)v>f <pi>a <pj>b; 47: <f(pi,pj)v>g volatile<pi>a volatile<pj>b (block@93 block@94)", "int (*f(int a))(char) { }": "0: <f(i)pf(c)i>f <i>a block@22", "int (f)(int (a)) { int b; }": "0: <f(i)i>f <i>a (block@17 <i>b@23)", "int (*f(int a))(int) ; int f(int a) {}": "0: <f(i)pf(i)i>f <i>a; 23: <f(i)i>f <i>a block@36", "struct none *f(void) {}": "0: <f()pSnone;>f block@21", "unsigned int f(void) {} short int g(void) {}": "0: <f()u>f block@21; 24: <f()s>g block@42",
		"int f(); int a; int g() {} struct s { int b; }; int c = 1; int f() {}": "struct s <i>b; 9: <i>a; 48: <i>c = 1@56; 0: <f()i>f; 16: <f()i>g block@24; 59: <f()i>f block@67",
		"struct a { int a; }; int a; int a() {} int a(void) {}":                 "struct a <i>a; 21: <i>a; 28: <f()i>a block@36; 39: <f()i>a block@51",
	} {
		u, f := parse.Unit(s)
		same(t, s, all(toldUnit(u), f), all(want, api.Fault{}))
	}
}

// 10.2: what tree.CheckUnit tells of what was read, at the first token of what it names.
func TestWrongUnits(t *testing.T) {
	deep := strings.Repeat("- ", 48) + "1"
	many := func(n int, s string) string { return strings.Repeat(s, n) }
	numbered := func(n int, s string) string {
		text := " "
		for i := range n {
			text += strings.ReplaceAll(s, "#", strconv.Itoa(i))
		}
		return text
	}
	structs := numbered(64, "struct s# { int a; };")
	for s, want := range map[string]api.Fault{
		" struct a { } ;": {At: 1, Code: api.ErrShape}, "struct b { int x; }; struct a { };": {At: 21, Code: api.ErrShape}, "int x; struct a { int b; }; struct a { int b; };": {At: 28, Code: api.ErrTwice}, " struct a { int b, b; };": {At: 1, Code: api.ErrTwice}, " struct a { struct a b; };": {At: 1, Code: api.ErrNone}, " struct a { struct b *c; struct b d; };": {At: 1, Code: api.ErrNone}, " struct a { int b[65536]; };": {At: 1, Code: api.ErrLong}, " struct a { char b[65536], c; };": {At: 1, Code: api.ErrLong}, " struct a { int b[0]; };": {At: 1, Code: api.ErrShape},
		" struct a { " + numbered(65, "int m#; ") + "};": {At: 1, Code: api.ErrLong}, "struct a { " + numbered(64, "int m#; ") + "};": {}, numbered(65, "struct s# { int a; };"): {Code: api.ErrLong}, structs + "struct s { };": {Code: api.ErrLong}, numbered(65, "struct s { int a; };"): {Code: api.ErrLong}, structs: {}, structs + "int a; int b[0];": {At: len(structs) + 7, Code: api.ErrTree}, structs + "int a = " + deep + ";": {At: len(structs), Code: api.ErrLong},
		numbered(256, "int a#;"): {}, numbered(257, "int a#;"): {Code: api.ErrLong}, " int a" + many(256, ", a") + ";": {Code: api.ErrLong}, " int a" + many(255, ", a") + ";": {}, " int a" + many(255, ", a") + "; int b[0];": {Code: api.ErrLong}, " int a" + many(254, ", a") + "; int b[0];": {At: 5 + 1 + 254*3 + 2, Code: api.ErrTree},
		many(256, " void f();"): {}, many(257, " void f();"): {Code: api.ErrLong}, many(255, " void f();") + "void f(struct s a);": {At: 2550, Code: api.ErrTree}, many(256, " void f();") + "void f(struct s a);": {Code: api.ErrLong},
		" int a[0];": {At: 1, Code: api.ErrTree}, "int a; volatile int b[0];": {At: 7, Code: api.ErrTree}, "int a; int b, c[0];": {At: 7, Code: api.ErrTree}, "int a; struct none b;": {At: 7, Code: api.ErrTree}, "int f(); void a[2];": {At: 9, Code: api.ErrTree}, "int f(); int g(); int a; int (*b)(int, int, int, int, int, int, int, int, int);": {At: 25, Code: api.ErrTree}, "int a[65536];": {Code: api.ErrTree}, "int *a[2](int);": {Code: api.ErrTree}, "int f(int a[2](int));": {}, "int f(); int " + many(48, "*") + "a;": {At: 9, Code: api.ErrTree}, "int f(); int " + many(47, "*") + "a;": {},
		"int a; int b = (int[0])1;": {At: 7, Code: api.ErrTree}, " int a = " + deep + ";": {At: 1, Code: api.ErrLong}, "int a; int b[2] = {1, " + deep + "};": {At: 7, Code: api.ErrLong}, "int a; int b = {" + many(4096, "1,") + "};": {}, "int a; int b = {" + many(4097, "1,") + "};": {At: 7, Code: api.ErrLong}, "int a; int b = {f(1,2,3,4,5,6,7,8,9)};": {At: 7, Code: api.ErrTree},
		" int f(struct s a);": {At: 1, Code: api.ErrTree}, "int a; int f(); struct none f(void);": {At: 16, Code: api.ErrTree}, "int f()(); int a;": {Code: api.ErrTree}, " int f(int,int,int,int,int,int,int,int,int);": {At: 1, Code: api.ErrTree}, "int f(int,int,int,int,int,int,int,int);": {}, "struct s { int a; }; struct s f(void);": {At: 21, Code: api.ErrTree}, "int f()[2];": {Code: api.ErrTree}, "int a; jmp_buf f();": {At: 7, Code: api.ErrTree},
		"int a; int f() {} int f() { " + deep + "; }": {At: 18, Code: api.ErrLong}, " int f() { " + deep + "; }": {At: 1, Code: api.ErrLong}, "int a; int f() {" + many(4095, ";") + "}": {}, "int a; int f() {" + many(4096, ";") + "}": {At: 7, Code: api.ErrLong}, "int a; int f() { int a[0]; }": {At: 7, Code: api.ErrTree}, "int f() { struct none a; }": {}, "int a, b, c; int f(); int g() { sizeof (int[0]); }": {At: 22, Code: api.ErrTree},
		"int f() { int a[0]; } int b[0]; struct s { };": {At: 32, Code: api.ErrShape}, "int f() { int a[0]; } int b[0];": {At: 22, Code: api.ErrTree}, "int f() { int a[0]; } int b = " + deep + ";": {At: 22, Code: api.ErrLong}, "int f() {} int g() { int a[0]; } int b;": {At: 11, Code: api.ErrTree}, " struct s { }; ;": {At: 15, Code: api.ErrSyntax}, "int a[0]; int": {At: 13, Code: api.ErrSyntax},
	} {
		u, f := parse.Unit(s)
		same(t, s, f, want)
		if want.Code != api.OK {
			same(t, s, all(u), all(api.Unit{}))
		}
	}
}
