package parse_test

import (
	"strings"
	"testing"

	"catapult/api"
	"catapult/parse"
	"catapult/types"
)

// 10.3, Type: each rule of the grammar, and what it means; a parameter is what it decays to.
func TestTypes(t *testing.T) {
	for s, want := range map[string]api.Type{
		"void": "v", "char": "c", "short": "s", "short int": "s", "int": "i", "unsigned": "u", "unsigned int": "u", "jmp_buf": "j", "struct s": "Ss;", "struct " + strings.Repeat("n", 31): api.Type("S" + strings.Repeat("n", 31) + ";"),
		"int *": "pi", "int **": "ppi", "void *": "pv", "int [3]": "a3:i", "int [2][3]": "a2:a3:i", "int *[3]": "a3:pi", "int (*)[3]": "pa3:i", "int *(*)[3]": "pa3:pi", "int (**)[3]": "ppa3:i", "int (*[2])[3]": "a2:pa3:i", "int [0]": "a0:i", "int [0x1f]": "a31:i", "int ['a']": "a97:i", `int ['\x00']`: "a0:i", "int [2147483647]": "a2147483647:i", "void [2]": "a2:v", "short int [2]": "a2:s",
		"int ()": "f()i", "int (void)": "f()i", "int (int)": "f(i)i", "int (int, char *)": "f(i,pc)i", "int *(int)": "f(i)pi", "int (*)(int)": "pf(i)i", "int (*(*)(int))[2]": "pf(i)pa2:i", "int (*)()": "pf()i", "int (*(int))(char)": "f(i)pf(c)i", "int ()()": "f()f()i", "int [2]()": "a2:f()i", "int ()[2]": "f()a2:i", "void (void)": "f()v", "void (*)(void)": "pf()v", "int (*(*)(void))(void)": "pf()pf()i",
		"int ([3])": "a3:i", "int (([3]))": "a3:i", "int (*)": "pi", "int ((*))": "pi", "int (())": "f()i", "int ((void))": "f()i", "int ((int))": "f(i)i", "int ((volatile int))": "f(i)i", "int (*())": "f()pi", "int ([2])[3]": "a2:a3:i", "int *([2])": "a2:pi", "int (*)[2][3]": "pa2:a3:i", "int ((*)(int))": "pf(i)i",
		"int (int a)": "f(i)i", "int (int (a))": "f(i)i", "int (int *a, int (*b), int (*c)(int), int d[2], int e(int))": "f(pi,pi,pf(i)i,pi,pf(i)i)i", "int (volatile int a, volatile int *)": "f(i,pi)i", "int (int [3])": "f(pi)i", "int (int [2][3])": "f(pa3:i)i", "int (int (int))": "f(pf(i)i)i", "int (int ())": "f(pf()i)i", "int (jmp_buf)": "f(pj)i", "int (jmp_buf b)": "f(pj)i", "int (jmp_buf [2])": "f(pj)i", "int (jmp_buf *)": "f(pj)i", "int (int (*)[3])": "f(pa3:i)i", "int (int (*[3])(void))": "f(ppf()i)i", "int (void *)": "f(pv)i", "int (void ())": "f(pf()v)i", "int (void [2])": "f(pv)i", "int (void (*)(void))": "f(pf()v)i", "int (struct s)": "f(Ss;)i", "int (struct s *)": "f(pSs;)i", "int (char, short, unsigned)": "f(c,s,u)i", "int (int (int (int)))": "f(pf(pf(i)i)i)i", "int (int ((a))[2])": "f(pi)i", "int (int (a)(int))": "f(pf(i)i)i", "int (int (*(a)))": "f(pi)i",
		"int (int,int,int,int,int,int,int,int,int)": "f(i,i,i,i,i,i,i,i,i)i", " /* a */ int // b\n * ": "pi",
	} {
		got, f := parse.Type(s)
		same(t, s, all(got, f), all(want, api.Fault{}))
	}
}

// 10.7: types.Declare of a right type is read as it, with a name and without.
func TestDeclaredTypes(t *testing.T) {
	g := newGrower(1, 0)
	for _, name := range []string{"t", "x"} {
		g.structure(name)
	}
	ahead := g.text.String()
	seen := map[api.Type]bool{}
	for range 10000 {
		v := g.variable("", of(&g.chance, local, argument, called, anything), 3)
		if types.Check(v.Type, g.structs) != api.OK || seen[v.Type] {
			continue
		}
		seen[v.Type] = true
		s, _ := types.Declare(v.Type, "")
		got, f := parse.Type(s)
		same(t, s, all(got, f), all(v.Type, api.Fault{}))
		if v.Type != "v" {
			decayed, _ := types.Decay(v.Type)
			got, f = parse.Type("int (" + s + ")")
			same(t, s, all(got, f), all("f("+decayed+")i", api.Fault{}))
		}
		s, _ = types.Declare(v.Type, "name")
		u, f := parse.Unit(ahead + s + ";")
		switch {
		case v.Type == "v":
			same(t, s, f, api.Fault{At: len(ahead + s), Code: api.ErrSyntax})
		case g.fits(v.Type, called):
			same(t, s, all(u.Funcs[0].Name, u.Funcs[0].Type, f), all("name", v.Type, api.Fault{}))
		default:
			same(t, s, all(u.Globals[0].Var, f), all(api.Var{Name: "name", Type: v.Type}, api.Fault{}))
		}
	}
	if len(seen) < 2000 {
		t.Errorf("%d types alone", len(seen))
	}
}

// 10.3, Type: types may be deep and long, whether they are right or not.
func TestLongTypes(t *testing.T) {
	for s, want := range map[string]string{
		"int " + strings.Repeat("*", 16000): strings.Repeat("p", 16000) + "i", "int " + strings.Repeat("[2]", 5000): strings.Repeat("a2:", 5000) + "i", "int " + strings.Repeat("()", 8000): strings.Repeat("f()", 8000) + "i", "int " + strings.Repeat("(", 8000) + "*" + strings.Repeat(")", 8000): "pi",
		strings.Repeat("int(", 5000) + "int" + strings.Repeat(")", 5000): "f(" + strings.Repeat("pf(", 4999) + "i" + strings.Repeat(")i", 5000), "int" + strings.Repeat("[2147483647]", 5400): strings.Repeat("a2147483647:", 5400) + "i",
	} {
		got, f := parse.Type(s)
		same(t, s, all(got, f), all(want, api.Fault{}))
	}
}
