package types_test

import (
	"strconv"
	"strings"
	"testing"

	"catapult/api"
	"catapult/types"
)

// 8.4: declarations of names; the chapter's examples.
func TestDeclare(t *testing.T) {
	for s, want := range map[string]string{
		"v": "void x", "c": "char x", "s": "short x", "i": "int x", "u": "unsigned x", "j": "jmp_buf x", "St;": "struct t x",
		"pi": "int *x", "ppc": "char **x", "pv": "void *x", "pj": "jmp_buf *x", "pSt;": "struct t *x",
		"a3:i": "int x[3]", "a2:a3:s": "short x[2][3]", "a0:i": "int x[0]", "a1099511627776:c": "char x[1099511627776]", "a3:pi": "int *x[3]", "a2:ppSt;": "struct t **x[2]", "a2:v": "void x[2]",
		"pa2:c": "char (*x)[2]", "ppa2:c": "char (**x)[2]", "pa2:pc": "char *(*x)[2]", "a5:pa2:c": "char (*x[5])[2]", "pa2:a3:i": "int (*x)[2][3]", "pa2:pa3:i": "int (*(*x)[2])[3]", "pppa1:i": "int (***x)[1]",
		"f()v": "void x(void)", "f(i)v": "void x(int)", "f(i,pc)i": "int x(int, char *)", "f(c,s,i,u)pv": "void *x(char, short, int, unsigned)", "f(pSt;,pj)pSu;": "struct u *x(struct t *, jmp_buf *)", "f(pv)v": "void x(void *)",
		"pf(i,pc)i": "int (*x)(int, char *)", "pf()v": "void (*x)(void)", "ppf()v": "void (**x)(void)", "a3:pf()v": "void (*x[3])(void)", "f()pf(i)v": "void (*x(void))(int)", "f(i)pa3:c": "char (*x(int))[3]", "pf(pf(pf()v)i)pc": "char *(*x)(int (*)(void (*)(void)))", "f(pf(i,i)i,pa2:i)pf(c)pf()v": "void (*(*x(int (*)(int, int), int (*)[2]))(char))(void)",
		"a2:f()v": "void x[2](void)", "f()a2:i": "int x(void)[2]", "f()f(i)v": "void x(void)(int)", "f(v)v": "void x(void)", "f(v,a2:i,f()j)v": "void x(void, int [2], jmp_buf (void))", "f(i,i,i,i,i,i,i,i,i)j": "jmp_buf x(int, int, int, int, int, int, int, int, int)",
	} {
		same(t, s, declared(t, s, "x"), want)
		same(t, s, plainDeclare(s, "x"), want)
	}
	same(t, "g", declared(t, "pf(i,pc)i", "g"), "int (*g)(int, char *)")
	same(t, "h", declared(t, "f()v", "h"), "void h(void)")
	same(t, "p", declared(t, "pa2:c", "p"), "char (*p)[2]")
	most := strings.Repeat("n", 31)
	same(t, "the longest names", declared(t, "pS"+most+";", most), "struct "+most+" *"+most)
}

// 8.4: declarations without a name.
func TestDeclareNone(t *testing.T) {
	for s, want := range map[string]string{
		"v": "void", "c": "char", "s": "short", "i": "int", "u": "unsigned", "j": "jmp_buf", "St;": "struct t",
		"pi": "int *", "ppc": "char **", "pSt;": "struct t *", "a3:i": "int [3]", "a3:pi": "int *[3]", "a2:a3:s": "short [2][3]", "pa2:c": "char (*)[2]", "a5:ppa2:c": "char (**[5])[2]", "f()v": "void (void)", "f(i,pc)i": "int (int, char *)", "pf(i,pc)i": "int (*)(int, char *)", "f()pf(i)v": "void (*(void))(int)", "a3:pf()v": "void (*[3])(void)", "f(a2:i)St;": "struct t (int [2])",
	} {
		same(t, s, declared(t, s, ""), want)
		same(t, s, plainDeclare(s, ""), want)
	}
}

// 8.4: what is no type, and what is no name.
func TestNoDeclaration(t *testing.T) {
	for _, s := range []string{"", "x", "p", "a3:", "f()", "ii", "S;", "St", "a01:i", "S t;", "pS t;", "a3:S t;", "f(pS t;)v", "f()pS t;", strings.Repeat("p", 65536) + "i"} {
		for _, name := range []string{"", "x", "1"} {
			text, e := types.Declare(api.Type(s), name)
			same(t, s, all(text, e), all("", api.ErrForm))
		}
	}
	for _, name := range []string{" ", "1", "a b", "a ", " a", "int", "struct", "volatile", "*a", "a[3]", "a()", "a;", "\x00", "\xff", "é", strings.Repeat("n", 32)} {
		for _, s := range []api.Type{"i", "v", "pf()v", "St;"} {
			text, e := types.Declare(s, name)
			same(t, name, all(text, e), all("", api.ErrForm))
		}
	}
}

// 8.4, P1: types of the greatest length.
func TestLongDeclarations(t *testing.T) {
	const n = 65535
	same(t, "pointers", declared(t, strings.Repeat("p", n)+"i", "x"), "int "+strings.Repeat("*", n)+"x")
	same(t, "arrays", declared(t, strings.Repeat("a1:", n/3)+"i", "x"), "int x"+strings.Repeat("[1]", n/3))
	same(t, "pointers to arrays", declared(t, strings.Repeat("pa1:", n/4)+"i", "x"), "int "+strings.Repeat("(*", n/4)+"x"+strings.Repeat(")[1]", n/4))
	same(t, "functions", declared(t, strings.Repeat("f()", n/3)+"i", "x"), "int x"+strings.Repeat("(void)", n/3))
	same(t, "parameters", declared(t, "f("+strings.Repeat("i,", 30000)+"u)v", ""), "void ("+strings.Repeat("int, ", 30000)+"unsigned)")
	same(t, "within", declared(t, strings.Repeat("f(", 16000)+"u"+strings.Repeat(")v", 16000), ""), strings.Repeat("void (", 16000)+"unsigned"+strings.Repeat(")", 16000))
}

// 8.4: declarations by chance.
func TestDeclareByChance(t *testing.T) {
	for seed := range 30000 {
		c := chance(seed*331 + 4)
		s, name := of(&c, c.any(4), c.odd(3)), of(&c, "", c.name())
		text, e := types.Declare(api.Type(s), name)
		if !plainForm(s) || name != "" && !plainIsName(name) {
			same(t, s, all(text, e), all("", api.ErrForm))
			continue
		}
		same(t, s, all(text, e), all(plainDeclare(s, name), api.OK))
	}
}

// 8.8: what is written is read back as it was.
func TestReadBack(t *testing.T) {
	read := 0
	for seed := range 30000 {
		c := chance(seed*1511 + 5)
		s := of(&c, c.any(3), c.any(5))
		if e := types.Check(api.Type(s), nil); e != api.OK && e != api.ErrNone {
			continue
		}
		read++
		for _, name := range []string{"", "x", strings.Repeat("n", 31)} {
			code, back := readBack(t, declared(t, s, name))
			same(t, s, all(code, back), all(s, name))
		}
	}
	if read < 15000 {
		t.Errorf("%d types are read back", read)
	}
}

// small is all types that may be of so many nodes, each of a few kinds.
func small(nodes int) []string {
	if nodes == 1 {
		return []string{"v", "c", "i", "u", "j", "St;", "Sx;"}
	}
	var l []string
	for _, s := range small(nodes - 1) {
		l = append(l, "p"+s, "a1:"+s, "a2:"+s, "a12:"+s, "f()"+s)
	}
	for i := 1; i < nodes-1; i++ {
		for _, a := range small(i) {
			for _, b := range small(nodes - 1 - i) {
				l = append(l, "f("+a+")"+b)
				if i == 1 {
					l = append(l, "f("+a+",i)"+b, "f(i,"+a+")"+b)
				}
			}
		}
	}
	return l
}

// 8.8: no two small types that may be are written the same, with a name or without.
func TestNoTwoTheSame(t *testing.T) {
	seen := map[string]string{}
	for n := range 5 {
		for _, s := range small(n + 1) {
			e := types.Check(api.Type(s), nil)
			if e != plainCheck(s, nil) {
				t.Fatalf("%q: %v", s, e)
			}
			if e != api.OK && e != api.ErrNone {
				continue
			}
			for _, name := range []string{"", "x"} {
				text := declared(t, s, name)
				if other, ok := seen[text]; ok && other != s {
					t.Errorf("%q and %q are both %q", s, other, text)
				}
				seen[text] = s
			}
		}
	}
	if len(seen) < 2000 {
		t.Errorf("%s texts", strconv.Itoa(len(seen)))
	}
}

// 8.8: of all texts of few bytes no two are the same type, however they are spelled.
func TestOneSpelling(t *testing.T) {
	const bytes = "vipS; \tta1:0+f()"
	seen := map[string]string{}
	var more func(s string, left int)
	more = func(s string, left int) {
		if text, e := types.Declare(api.Type(s), ""); e == api.OK {
			if other, ok := seen[text]; ok && other != s {
				t.Errorf("%q and %q are both %q", s, other, text)
			}
			seen[text] = s
		}
		for i := 0; left > 0 && i < len(bytes); i++ {
			more(s+bytes[i:i+1], left-1)
		}
	}
	more("", 4)
	more("pS", 3)
	more("a1:S", 4)
	more("f(S", 4)
	if len(seen) < 500 {
		t.Errorf("%d types", len(seen))
	}
}
