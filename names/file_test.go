package names_test

import (
	"slices"
	"strconv"
	"strings"
	"testing"

	"catapult/api"
	"catapult/names"
)

// toldFile is what File tells: of each name its letter, number, type and itself.
func toldFile(u api.Unit) string {
	l, texts, f := names.File(u)
	if f.Code != api.OK {
		return all("fault", f, len(l), len(texts))
	}
	var told []string
	for i, b := range l {
		told = append(told, letter(b.Kind)+strconv.Itoa(b.Index)+" "+string(b.Type)+" "+texts[i])
	}
	return strings.Join(told, ", ")
}

// 11.2: the names of a file: globals in order, then functions of a new name in order.
func TestFile(t *testing.T) {
	for s, want := range map[string]string{
		"": "", "int x;": "g0 i x", "void f();": "f0 f()v f", "int f() { return 0; }": "f0 f()i f",
		"int z, *y; char x[3];":                                       "g0 i z, g1 pi y, g2 a3:c x",
		"int g(); int z; void f(int); volatile int a; int g();":       "g0 i z, g1 i a, f0 f()i g, f1 f(i)v f",
		"int f(int a); int f(int b) { } int f(int);":                  "f0 f(i)i f",
		"int g() { } int f() { } int g(); int h();":                   "f0 f()i g, f1 f()i f, f2 f()i h",
		"int main() { int x; { int y; } for (int z = 0; ; ) ; }":      "f0 f()i main",
		"struct x { int f; }; struct x x; int f(int x);":              "g0 Sx; x, f0 f(i)i f",
		"int a, b, c, d; int e(); int f();":                           "g0 i a, g1 i b, g2 i c, g3 i d, f0 f()i e, f1 f()i f",
		"int (*x)(int); int (*f(int))(char);":                         "g0 pf(i)i x, f0 f(i)pf(c)i f",
		"jmp_buf b; int f(int exit, int b, int f);":                   "g0 j b, f0 f(i,i,i)i f",
		"int f(int a, int a); int g(int a, int a) { }":                "f0 f(i,i)i f, f1 f(i,i)i g",
		"int f() { int a; int a; b; } int g() { int f; }":             "f0 f()i f, f1 f()i g",
		"int x = f, y = nothing; int f(char a[2], int b(int));":       "g0 i x, g1 i y, f0 f(pc,pf(i)i)i f",
		"int Getchar, setjmp_, co, put, char_, getchar1; void exi();": "g0 i Getchar, g1 i setjmp_, g2 i co, g3 i put, g4 i char_, g5 i getchar1, f0 f()v exi",
	} {
		same(t, s, toldFile(unit(t, s)), want)
	}
}

// 11.2: the faults of a file, each at its place.
func TestFileFaults(t *testing.T) {
	for s, want := range map[string]api.Fault{
		"int x; int x;": {At: 7, Code: api.ErrTwice}, "int x, y, x;": {Code: api.ErrTwice}, "int x; char y; volatile unsigned *x;": {At: 15, Code: api.ErrTwice}, " int x; int x; int x;": {At: 8, Code: api.ErrTwice},
		"int x; int x();": {At: 7, Code: api.ErrTwice}, "int x(); int x;": {Code: api.ErrTwice}, " int x(); int y(); int x;": {At: 1, Code: api.ErrTwice}, "int x() { } int y; int x;": {Code: api.ErrTwice}, "int x; int y(); int x() { }": {At: 16, Code: api.ErrTwice},
		"int x(); int x(int); int x;": {Code: api.ErrTwice}, "int y(); int y(int); int x(); int x;": {At: 9, Code: api.ErrType}, "int x(); int y; int y; int x;": {At: 16, Code: api.ErrTwice}, "int f(); char f(); int y; int y;": {At: 26, Code: api.ErrTwice},
		"int f(); int f(int);": {At: 9, Code: api.ErrType}, "int f(); char f();": {At: 9, Code: api.ErrType}, "int f(int); int f(unsigned);": {At: 12, Code: api.ErrType}, "int f(int *); int f(char *);": {At: 14, Code: api.ErrType}, "struct s *f(); struct t *f();": {At: 15, Code: api.ErrType}, "int f(int a) { } int f(char a);": {At: 17, Code: api.ErrType}, "int f(); int g(); int f(); int g(int); int f(char);": {At: 27, Code: api.ErrType}, "int f(); int f(int) ; int f();": {At: 9, Code: api.ErrType},
		"int f() { } int f() { }": {At: 12, Code: api.ErrTwice}, "int f() { } int f(); int f() { }": {At: 21, Code: api.ErrTwice}, "int f(); int f() { } int f(); int f() { } int f() { }": {At: 30, Code: api.ErrTwice}, "int f() { } int f(int a) { }": {At: 12, Code: api.ErrTwice}, "int f() { } int f(int a);": {At: 12, Code: api.ErrType}, "int f(); int f(int a) { }": {At: 9, Code: api.ErrType}, "int f(); int f(int a) { } int f() { }": {At: 9, Code: api.ErrType}, "int f() { } int g() { } int g() { } int f() { }": {At: 24, Code: api.ErrTwice},
		"int f(); int f(); int f() { } int f(); int f();": {}, "int f(int *a); int f(int b[3]) { }": {}, "int f(int (*a)(char)); int f(int b(char)) { }": {}, "int f(jmp_buf a); int f(jmp_buf *b) { }": {}, "int f(volatile int a); int f(int b) { } int f(int);": {},
		"struct x { int a; }; int x;": {}, "struct x { int a; }; int x(); struct y { int x; };": {}, "int x = x; int y = nothing;": {},
	} {
		u := unit(t, s)
		_, _, got := names.File(u)
		same(t, s, all(got, plainFault(u)), all(want, want))
		_, got = names.Funcs(u)
		same(t, s, got, want)
	}
	for _, v := range names.Built() {
		for text, want := range map[string]api.Fault{
			"int #;": {Code: api.ErrTwice}, " int x; int #;": {At: 8, Code: api.ErrTwice}, "void #();": {Code: api.ErrTwice}, "int x(); int #(int a) { }": {At: 9, Code: api.ErrTwice}, "void f(); void f(int); void #();": {At: 10, Code: api.ErrType}, "void #(); void f(); void f(int);": {Code: api.ErrTwice},
			"int f(int #) { }": {}, "int f() { int #; }": {}, "struct # { int #; };": {}, "int #_; int _#;": {},
		} {
			s := strings.ReplaceAll(text, "#", v.Name)
			_, _, got := names.File(unit(t, s))
			same(t, s, got, want)
		}
	}
}

// counted is a piece of text, so many times, with numbers from 0 on in place of #.
func counted(n int, text string) string {
	s := ""
	for i := range n {
		s += strings.ReplaceAll(text, "#", strconv.Itoa(i))
	}
	return s
}

// 11.2: at most MaxFuncs functions of different names, and what is told where there are more.
func TestManyFunctions(t *testing.T) {
	const first = "int y;"
	most := first + counted(128, "int f#();")
	for _, x := range []struct {
		behind string
		at     int // behind all that
		want   api.Errno
	}{
		{behind: ""}, {behind: "int f0();"}, {behind: "int f127() { }"}, {"int g();", 0, api.ErrLong}, {"int g() { }", 0, api.ErrLong}, {" char f128();", 1, api.ErrLong}, {"int f9();int g();", 9, api.ErrLong},
		{"int y();", 0, api.ErrTwice}, {"int getchar();", 0, api.ErrTwice}, {"int f5(int);", 0, api.ErrType}, {"int f128();int f3(int);", 0, api.ErrLong}, {"int f3(int);int f128();", 0, api.ErrType}, {"int f128();int y();", 0, api.ErrLong},
	} {
		var want api.Fault
		if x.want != api.OK {
			want = api.Fault{At: len(most) + x.at, Code: x.want}
		}
		u := unit(t, most+x.behind)
		l, texts, f1 := names.File(u)
		funcs, f2 := names.Funcs(u)
		same(t, x.behind, all(f1, f2, plainFault(u)), all(want, want, want))
		if x.want == api.OK {
			same(t, x.behind, all(len(l), len(texts), len(funcs), texts[128], l[128]), all(129, 129, 128, "f127", "{2 127 f()i}"))
		}
	}
	s := counted(128, "int f#(); int f#() { }") + counted(256, "int x#;")
	l, texts, f := names.File(unit(t, s))
	same(t, "as many as there may be", all(len(l), len(texts), texts[0], l[255], texts[383], l[383], f), all(384, 384, "x0", "{1 255 i}", "f127", "{2 127 f()i}", api.Fault{}))
}

// 11.2: of each name the function with the body, if there is one, else the first, in the order of the names.
func TestFuncs(t *testing.T) {
	for s, want := range map[string]string{
		"": "", "int x;": "", "int f(int a); int f(int b);": "0 f a 0", "int f(int a); int f(int b) { return b; }": "14 f b 3", "int f(int b) { ; } int f(int a); int f(int);": "0 f b 2",
		"int f(int a); int g(); int f(int b); int h() { } int f(int c) { { ; } } int g() { } int f(int d); int h();": "49 f c 3, 72 g 1, 37 h 1", "int g(int); int f(int); int g(int a); int f(int b);": "0 g 0, 12 f 0",
	} {
		u := unit(t, s)
		l, f := names.Funcs(u)
		same(t, s, f, api.Fault{})
		_, texts, _ := names.File(u)
		var told []string
		for i, x := range l {
			words := all(x.At, x.Name)
			for _, v := range x.Params {
				words += strings.TrimSuffix(" "+v.Name, " ")
			}
			told = append(told, words+" "+strconv.Itoa(len(x.Body)))
			same(t, s, x.Name, texts[len(texts)-len(l)+i])
		}
		same(t, s, strings.Join(told, ", "), want)
		for _, x := range l {
			isIt := func(y api.Func) bool { return all(x) == all(y) }
			same(t, s, slices.ContainsFunc(u.Funcs, isIt), true)
		}
	}
}
