package check_test

import (
	"slices"
	"strings"
	"testing"

	"catapult/api"
	"catapult/parse"
)

// Units by chance: expressions of the types that are asked for, mostly, so that many are right, and others wrong at few places.

// chance is numbers that look as if they came by chance, and are always the same.
type chance uint32

func (c *chance) below(n int) int {
	*c = *c*1664525 + 1013904223
	return int(*c>>8) % n
}

// one is true once in so many times.
func (c *chance) one(in int) bool { return c.below(in) == 0 }

// of is one of its arguments.
func of[T any](c *chance, l ...T) T { return l[c.below(len(l))] }

// variable is a name, its type, and how it is declared, with # in place of the name.
type variable struct{ name, typed, text string }

// variables is one of each type that matters.
func variables() []variable {
	return []variable{
		{"c", "c", "char #"}, {"s", "s", "short #"}, {"i", "i", "int #"}, {"u", "u", "unsigned #"}, {"p", "pi", "int *#"}, {"q", "pc", "char *#"}, {"v", "pv", "void *#"}, {"a", "a3:i", "int #[3]"}, {"b", "a2:a3:c", "char #[2][3]"},
		{"t", "St;", "struct t #"}, {"w", "Sw;", "struct w #"}, {"n", "pSt;", "struct t *#"}, {"x", "pSnone;", "struct none *#"}, {"j", "j", "jmp_buf #"}, {"o", "pf(i)i", "int (*#)(int)"}, {"pp", "ppi", "int **#"},
	}
}

// grower puts texts together by chance.
type grower struct {
	chance
	stray int        // one thing in so many is another one than that which fits
	names []variable // that may be named
}

// line is texts in a row, with blank between any two.
func line(l ...string) string { return strings.Join(l, " ") }

// pick is the name of a variable of a type; another expression, if there is none.
func (g *grower) pick(typed string) string {
	var l []string
	for _, v := range g.names {
		if v.typed == typed {
			l = append(l, v.name)
		}
	}
	if len(l) == 0 {
		return "(" + cast(typed) + "0)"
	}
	return of(&g.chance, l...)
}

// cast is a cast to a type.
func cast(typed string) string {
	text := map[string]string{"c": "char", "s": "short", "i": "int", "u": "unsigned", "pi": "int *", "pc": "char *", "pv": "void *", "pSt;": "struct t *", "pSnone;": "struct none *", "pf(i)i": "int (*)(int)", "ppi": "int **", "St;": "struct t", "v": "void", "pj": "jmp_buf *", "j": "jmp_buf"}[typed]
	if text == "" {
		text = "int"
	}
	return "(" + text + ")"
}

// whole is one of the whole-number types.
func (g *grower) whole() string { return of(&g.chance, "i", "i", "i", "c", "s", "u") }

// pointer is one of the pointer types.
func (g *grower) pointer() string {
	return of(&g.chance, "pi", "pi", "pc", "pv", "pSt;", "pSnone;", "pf(i)i", "ppi")
}

// any is one of all types.
func (g *grower) any() string {
	return of(&g.chance, g.object(), g.object(), g.object(), "v", "f")
}

// object is one of the objects' types.
func (g *grower) object() string {
	return of(&g.chance, g.whole(), g.whole(), g.pointer(), "a3:i", "a2:a3:c", "St;", "Sw;", "j")
}

// isSized tells whether a type is a pointer to what has a size.
func isSized(typed string) bool { return slices.Contains([]string{"pi", "pc", "pSt;", "ppi"}, typed) }

// expression is an expression of a type, at most so deep, in brackets if it is no short one.
func (g *grower) expression(typed string, deep int) string {
	if g.one(g.stray) {
		typed = g.any()
	}
	if deep <= 1 {
		return g.short(typed)
	}
	if g.one(7) {
		return "(" + g.wrapped(typed, deep-1) + ")"
	}
	switch typed {
	case "c", "s", "i", "u":
		return "(" + g.number(typed, deep-1) + ")"
	case "v":
		return g.nothing(deep - 1)
	case "St;":
		return "(" + g.structure(deep-1) + ")"
	case "a3:i", "a2:a3:c", "Sw;", "j", "f":
		return g.short(typed)
	}
	return "(" + g.address(typed, deep-1) + ")"
}

// short is an expression of few nodes.
func (g *grower) short(typed string) string {
	switch typed {
	case "c", "s", "i":
		return of(&g.chance, g.pick(typed), g.pick(typed), "1", "0", "'a'", "(-1)", "3000000000")
	case "u":
		return of(&g.chance, g.pick(typed), "7u", "(sizeof(int))", "4294967295")
	case "v":
		return of(&g.chance, "h()", "exit(1)", "((void)i)")
	case "f":
		return g.often([]string{"f", "g", "h", "main"}, "z", "getchar")
	case "pf(i)i":
		return of(&g.chance, "f", "(&f)", g.pick(typed), "0")
	case "pc":
		return of(&g.chance, `"ab"`, g.pick(typed), "0", "q")
	case "pi":
		return of(&g.chance, g.pick(typed), "a", "(&i)", "0", "((void *)0)")
	case "pSt;":
		return of(&g.chance, g.pick(typed), "(&t)", "0")
	case "pj":
		return of(&g.chance, "j", "(&j)", "w.j")
	}
	return g.pick(typed)
}

// wrapped is an expression of any type, made of others.
func (g *grower) wrapped(typed string, deep int) string {
	part := func() string { return g.expression(typed, deep) }
	isScalar := !slices.Contains([]string{"a3:i", "a2:a3:c", "St;", "Sw;", "j", "v", "f"}, typed)
	switch g.below(4) {
	case 0:
		return line(g.expression(g.any(), deep), ",", part())
	case 1:
		return line(g.expression(of(&g.chance, g.whole(), g.pointer()), deep), "?", part(), ":", part())
	case 2:
		if isScalar || typed == "St;" || g.one(g.stray) {
			return line(cast(typed), part())
		}
	}
	if isScalar || typed == "St;" || g.one(g.stray) {
		return line(of(&g.chance, "*&", "")+g.pick(typed), "=", part())
	}
	return part()
}

// structure is an expression of the struct t.
func (g *grower) structure(deep int) string {
	return of(&g.chance, line("t =", g.expression("St;", deep)), "*"+g.expression("pSt;", deep), "w.t", g.expression("pSt;", deep)+"["+g.expression("i", deep)+"]")
}

// nothing is an expression of no value.
func (g *grower) nothing(deep int) string {
	return of(&g.chance, "exit("+g.expression("i", deep)+")", "((void)"+g.expression(g.any(), deep)+")", "longjmp("+g.expression("pj", deep)+", 1)", "co_free("+g.expression("c", deep)+")")
}

// number is an expression of a whole-number type, or near it.
func (g *grower) number(typed string, deep int) string {
	a, b := g.expression(g.whole(), deep), g.expression(g.whole(), deep)
	switch g.below(15) {
	case 0, 1, 2:
		return line(a, of(&g.chance, "+", "-", "*", "/", "%", "&", "|", "^", "<<", ">>", "<", ">", "<=", ">=", "==", "!="), b)
	case 3:
		return line(of(&g.chance, a, g.expression(g.pointer(), deep)), of(&g.chance, "&&", "||"), b)
	case 4:
		return of(&g.chance, "-", "~", "!") + a
	case 5:
		return "!" + g.expression(g.pointer(), deep)
	case 6:
		return line(g.pick(typed), of(&g.chance, "=", "+=", "-=", "*=", "/=", "%=", "&=", "|=", "^=", "<<=", ">>="), a)
	case 7:
		return strings.ReplaceAll(of(&g.chance, "++#", "--#", "#++", "#--", "a[1]--", "t.c++"), "#", g.pick(typed))
	case 8:
		p := g.pointer()
		if isSized(p) || g.one(g.stray) {
			return line(g.expression(p, deep), of(&g.chance, "-", "<", ">", "<=", ">="), g.pick(p))
		}
		return line(g.expression(p, deep), of(&g.chance, "==", "!="), g.expression(p, deep))
	case 9:
		return g.call(deep)
	case 10:
		return line("sizeof", g.expression(g.object(), deep))
	case 11:
		return of(&g.chance, "*"+g.expression("pi", deep), g.expression("pc", deep)+"["+a+"]", a+"["+g.expression("pi", deep)+"]")
	case 12:
		return g.often([]string{g.expression("pSt;", deep) + of(&g.chance, "->c", "->i", "->a[1]"), "t.i", "w.t.c", "w.s"}, "n->none", g.expression("St;", deep)+".c", "x->c", "p->c")
	case 13:
		p := of(&g.chance, "pi", "pSt;", "ppi", "pSnone;", "pc")
		return of(&g.chance, line("v", of(&g.chance, "==", "!="), g.expression(p, deep)), line(g.expression(p, deep), of(&g.chance, "==", "!="), of(&g.chance, "v", "0", "(void *)0")))
	}
	return line(cast(typed), a)
}

// call is a call of what answers a number.
func (g *grower) call(deep int) string {
	x := func(typed string) string { return g.expression(typed, deep) }
	return of(&g.chance, "f("+x("i")+")", "g("+x("pc")+","+x("s")+")", "o("+x("c")+")", "(*"+x("pf(i)i")+")("+x("i")+")", "getchar()", "putchar("+x("i")+")", "co_new("+x("pf(i)i")+","+x("i")+", 256)", "co_resume("+x("i")+","+x("u")+")", "co_yield("+x("i")+")", "co_done(1)", "main()")
}

// address is an expression of a pointer type.
func (g *grower) address(typed string, deep int) string {
	a := g.expression(typed, deep)
	if typed == "pj" || typed == "pf(i)i" {
		return a
	}
	if !isSized(typed) && !g.one(g.stray) {
		return of(&g.chance, line(g.pick(typed), "=", g.expression("pv", deep)), line(cast(typed), g.expression(of(&g.chance, "pi", "pc", "pv"), deep)))
	}
	p := g.pick(typed)
	switch g.below(8) {
	case 0, 1:
		return line(p, of(&g.chance, "+", "-"), g.expression(g.whole(), deep))
	case 2:
		return line(g.expression(g.whole(), deep), "+", p)
	case 3:
		return line(p, "=", of(&g.chance, a, g.expression("pv", deep)))
	case 4:
		return line(p, of(&g.chance, "+=", "-="), g.expression(g.whole(), deep))
	case 5:
		return strings.ReplaceAll(of(&g.chance, "++#", "#--"), "#", p)
	case 6:
		return line(cast(typed), g.expression(of(&g.chance, "pi", "pc", "pv", "pSt;"), deep))
	}
	switch typed {
	case "pi":
		return of(&g.chance, "&a[1]", "&t.i", "*pp", "*&a", "&*p")
	case "pc":
		return of(&g.chance, "b[1]", "*b", "&t.c", "w.t.a", `"x" + 1`)
	case "pSt;":
		return of(&g.chance, "t.n", "n->n", "k(1u, n)", "&*n", "&n[1]", "&w.t")
	}
	return "&" + g.pick("pi")
}

// set is a call of setjmp in an expression, mostly one in which it may stand.
func (g *grower) set() string {
	s := of(&g.chance, "setjmp(j)", "setjmp(&j)", "setjmp(w.j)")
	mark := of(&g.chance, "<", ">", "<=", ">=", "==", "!=")
	s = of(&g.chance, s, s, "!"+s, line(s, mark, of(&g.chance, "0", "1 - 2", "sizeof(int)", "3u")), line("2", mark, s))
	if g.one(g.stray) {
		return of(&g.chance, line(s, "+ 1"), line("i =", s), line("!("+s+")"), line(s, "== i"), line("(void)"+s), line("(int)"+s), line(s, ", 1"))
	}
	return s
}

// condition is what a statement may decide by.
func (g *grower) condition() string {
	if g.one(5) {
		return g.set()
	}
	return g.expression(of(&g.chance, g.whole(), g.whole(), g.pointer()), 3)
}

// declaration is a declaration of a variable, that may be named from then on.
func (g *grower) declaration() string {
	v := of(&g.chance, variables()...)
	v.name += of(&g.chance, "1", "2", "3", "4", "5", "6")
	for slices.Contains(g.names, v) && !g.one(g.stray) {
		v.name += "x"
	}
	s := of(&g.chance, "", "", "", "volatile ") + strings.Replace(v.text, "#", v.name, 1)
	if types := g.isPlain(v.typed); g.one(2) && (types || g.one(g.stray)) {
		s = line(s, "=", g.expression(v.typed, 3))
	}
	if g.one(4 * g.stray) {
		s = "struct none " + v.name
	}
	g.names = append(slices.Clone(g.names), v)
	return s + ";"
}

// isPlain tells whether a variable of a type may have a value.
func (g *grower) isPlain(typed string) bool { return typed[0] != 'a' && typed != "j" }

// inner is a text among names of its own.
func (g *grower) inner(text func() string) string {
	names := g.names
	s := text()
	g.names = names
	return s
}

// statement is a statement at most so deep; what stands around it: l a loop, s a switch.
func (g *grower) statement(deep int, around string) string {
	if deep <= 1 {
		return g.simple(around)
	}
	deep--
	switch g.below(12) {
	case 0, 1:
		return line("if (", g.condition(), ") {", g.statement(deep, around), "} else", g.statement(deep, around))
	case 2:
		return line("while (", g.condition(), ")", g.statement(deep, around+"l"))
	case 3:
		return line("do", g.statement(deep, around+"l"), "while (", g.condition(), ");")
	case 4, 5:
		return g.inner(func() string {
			first := of(&g.chance, ";", line(g.expression(g.any(), 2), ";"))
			if g.one(2) {
				first = g.declaration()
			}
			return line("for (", first, of(&g.chance, "", g.condition()), ";", of(&g.chance, "", "i++", "exit(1)", "setjmp(j)", "t"), ")", g.statement(deep, around+"l"))
		})
	case 6, 7:
		return g.inner(func() string { return g.selection(deep, around) })
	case 8, 9, 10:
		return g.inner(func() string { return g.block(deep, around) })
	}
	return g.simple(around)
}

// simple is a statement that has no other one.
func (g *grower) simple(around string) string {
	l := []string{line(g.expression(g.any(), 3), ";"), line(g.expression(g.whole(), 4), ";"), line(g.expression(g.pointer(), 3), ";"), "return " + g.expression(of(&g.chance, "i", "u"), 3) + ";", ";", of(&g.chance, "setjmp(j);", "(void)setjmp(j);")}
	if around != "" || g.one(g.stray) {
		l = append(l, "break;")
	}
	if strings.Contains(around, "l") || g.one(g.stray) {
		l = append(l, "continue;")
	}
	if g.one(g.stray) {
		l = []string{"return;", "case 1: ;", "default: ;", "switch (i) case 1: ;", "switch (i) ;", "1 = i;", "&f(1);", "a++;", "t += 1;", "nobody;", "(i + 1)--;", "f = 0;", "{ int i; int i; }", "switch (i) { case 1: ; case 1: ; }", "switch (i) { default: case 2: default: ; }", "switch (i) { case 2: case 2: ; }"}
	}
	return of(&g.chance, l...)
}

// block is a block.
func (g *grower) block(deep int, around string) string {
	l := []string{"{"}
	for range g.below(5) {
		l = append(l, of(&g.chance, g.declaration, func() string { return g.statement(deep, around) }, func() string { return g.statement(deep, around) })())
	}
	return line(append(l, "}")...)
}

// selection is a switch.
func (g *grower) selection(deep int, around string) string {
	l := []string{"switch (", g.condition(), ") {"}
	if !g.one(g.stray) {
		l[1] = of(&g.chance, g.expression(g.whole(), 3), g.set())
	}
	cases := []string{"case 0:", "case 1:", "case -1:", "case 'a':", "case 1 + 1:", "case sizeof(int):", "case 4294967294:", "default:"}
	for range g.below(5) {
		for range 1 + g.below(3)/2 {
			if g.one(3) || len(cases) == 0 {
				break
			}
			i := g.below(len(cases))
			l = append(l, cases[i])
			if !g.one(2 * g.stray) {
				cases = slices.Delete(cases, i, i+1)
			}
			if g.one(3 * g.stray) {
				l = append(l, "case i:")
			}
		}
		l = append(l, g.statement(deep, around+"s"))
	}
	return line(append(l, "}")...)
}

// globals is globals with values.
func (g *grower) globals() []string {
	// They are many, and all ahead of the functions.
	stray := g.stray
	g.stray *= 8
	defer func() { g.stray = stray }()
	l := []string{"struct t { char c; int i; char a[3]; struct t *n; int (*h)(int); };", "struct w { struct t t; jmp_buf j; short s; };"}
	for _, v := range variables() {
		s := strings.Replace(v.text, "#", v.name, 1)
		switch {
		case g.one(2):
		case v.typed == "a3:i":
			s += g.often([]string{"= {1, 2, 3}", "= {1}", "= {1, -1u, 'a'}"}, "= {i, 2}", "= {1, 2, 3, 4}", "= 1")
		case v.typed == "a2:a3:c":
			s += g.often([]string{"= {1, 2, 300, 4}", "= {1}"}, `= "a"`, "= {0, p}")
		case v.typed == "St;":
			s += g.often([]string{"= {1, 2, 3, 4, 5, &t, f}", "= {1, 1}", "= {'a', 'a', 'a', 'a', 'a', 0, 0}"}, "= {1, 2, 3, 4, 5, 6}", "= t")
		case v.typed == "j", v.typed == "Sw;":
			s += g.often([]string{""}, "= 0", "= &p")
		case g.one(g.stray):
			s += "= " + g.expression(v.typed, 2)
		default:
			s += "= " + g.constant(v.typed)
		}
		l = append(l, s+";")
	}
	return append(l, of(&g.chance, `char m[4] = "abc";`, `char m[3] = "abc";`, `char m[9] = {"a\xff"};`, `char *m[2] = {"a", "b"};`, "int m;"))
}

// often is one of some texts, and seldom one of others.
func (g *grower) often(l []string, others ...string) string {
	if g.one(g.stray) {
		return of(&g.chance, others...)
	}
	return of(&g.chance, l...)
}

// constant is a constant of a type.
func (g *grower) constant(typed string) string {
	l, others := []string{"1", "-1", "300", "70000", "1 << 31", "(char)200", "sizeof(struct w)", "1 ? 2 : 1 / 0", "4294967295", "'a'"}, []string{"1 / 0", "i", "a", "sizeof i"}
	switch typed {
	case "pi":
		l, others = []string{"&i", "a", "0", "(int *)&c", "(int *)a", "(void *)0", "&*&i", "(int *)0"}, []string{"a + 0", "&c", "(int *)(void *)a"}
	case "pc":
		l, others = []string{`"abc"`, "&c", "&t.c", "0", "(char *)a"}, []string{"b[0]", "m", "&t.a[0]"}
	case "pv":
		l, others = []string{`"abc"`, "&v", "a", "0", "(void *)0", "&w"}, []string{"(char *)p", "(int *)0", "f"}
	case "pSt;":
		l, others = []string{"&t", "0", "&w.t", "(struct t *)&i"}, []string{"t", "&w", "n"}
	case "pf(i)i":
		l, others = []string{"f", "&f", "*f", "0", "(void *)0"}, []string{"z", "h", "o", "getchar"}
	case "pSnone;":
		l, others = []string{"0", "(struct none *)&t"}, []string{"*x", "&t"}
	case "ppi":
		l, others = []string{"0", "&p"}, []string{"p", "&a"}
	}
	return g.often(l, others...)
}

// unit is a unit.
func (g *grower) unit() string {
	l := append(g.globals(), "int z(int);", "int f(int k9);")
	funcs := []string{
		"int f(int k9) #", "char *g(char *q, volatile short s) { return q; }", "void h(void) { ; }", "struct t *k(unsigned u, struct t *n) { return n; }", "int main() #",
	}
	if g.one(g.stray) {
		funcs = append(funcs, "void l(void) { return; }", "char d(char c, int i) #")
	}
	for _, s := range funcs {
		if strings.Contains(s, "#") {
			s = strings.Replace(s, "#", g.inner(func() string { return g.block(4, "") }), 1)
		}
		l = append(l, s)
	}
	return line(l...)
}

// grown is a unit by chance, and its text. All nodes stand at places of their own, so that the places tell them apart.
func grown(t *testing.T, seed int) (api.Unit, string) {
	t.Helper()
	g := &grower{chance: chance(seed*7919 + 11), names: variables(), stray: []int{20, 60, 300, 100000}[seed%4]}
	s := g.unit()
	u, f := parse.Unit(s)
	if f.Code == api.ErrTree || f.Code == api.ErrLong {
		return api.Unit{}, ""
	}
	same(t, s, f, api.Fault{})
	scatter(&u, g.below)
	return u, s
}

// scatter puts all nodes of a unit at places of their own.
func scatter(u *api.Unit, below func(int) int) {
	next := below(1000)
	place := func() int {
		next = (next + 4099) % (api.MaxText + 1)
		return next
	}
	for i := range u.Globals {
		u.Globals[i].At = place()
		for _, t := range u.Globals[i].Init {
			for j := range t {
				t[j].At = place()
			}
		}
	}
	for i := range u.Funcs {
		u.Funcs[i].At = place()
		for j := range u.Funcs[i].Body {
			u.Funcs[i].Body[j].At = place()
		}
	}
}
