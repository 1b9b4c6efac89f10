package names_test

import (
	"slices"
	"strings"
	"testing"

	"catapult/api"
)

// Units by chance: few names, so that many of them meet.

// chance is numbers that look as if they came by chance, and are always the same.
type chance uint32

func (c *chance) below(n int) int {
	*c = *c*1664525 + 1013904223
	return int(*c>>8) % n
}

// one is true once in so many times.
func (c *chance) one(in int) bool { return c.below(in) == 0 }

// of is one of its arguments.
func of[T any](c *chance, l ...T) T { return l[c.below(len(l))] }

// grower is the text of a unit, put together by chance.
type grower struct {
	chance
	names []string // that are declared and named in functions
	free  []string // of those the ones that the innermost scope has not declared yet, mostly
}

// line is texts in a row, with blank between any two.
func line(l ...string) string { return strings.Join(l, " ") }

// many is so many texts, one behind the other.
func many(n int, text func() string) string {
	var l []string
	for range n {
		l = append(l, text())
	}
	return line(l...)
}

// name is a name within a function.
func (g *grower) name() string {
	if g.one(30) {
		return of(&g.chance, "nothing", "s", "f", "g", "exit", "getchar")
	}
	return of(&g.chance, g.names...)
}

// fresh is a name to be declared: seldom one that the scope has already.
func (g *grower) fresh() string {
	if len(g.free) == 0 || g.one(40) {
		return g.name()
	}
	i := g.below(len(g.free))
	s := g.free[i]
	g.free = slices.Delete(slices.Clone(g.free), i, i+1)
	return s
}

// scoped is a text within a scope of its own.
func (g *grower) scoped(text func() string) string {
	outer := g.free
	g.free = g.names
	s := text()
	g.free = outer
	return s
}

// base is what a declaration begins with.
func (g *grower) base() string {
	return of(&g.chance, "", "", "volatile ") + of(&g.chance, "int", "char", "unsigned", "struct s", "short")
}

// declaration is a declaration of so many local variables.
func (g *grower) declaration(n, deep int) string {
	var l []string
	for range n {
		s := of(&g.chance, "", "", "*", "**") + g.fresh() + of(&g.chance, "", "", "[2]")
		if g.one(2) {
			s = line(s, "=", g.expression(deep))
		}
		l = append(l, s)
	}
	return line(g.base(), strings.Join(l, ", "), ";")
}

// expression is an expression in brackets, or a short one.
func (g *grower) expression(deep int) string {
	if deep <= 0 || g.one(3) {
		return of(&g.chance, g.name(), g.name(), g.name(), "1", `"a"`, "(sizeof(int))")
	}
	x, y := g.expression(deep-1), g.expression(deep-2)
	switch g.below(9) {
	case 0:
		return line(g.name(), "(", x, ",", y, ")")
	case 1:
		return line("(", x, of(&g.chance, "+", "&&", "<", "=", "+=", ","), y, ")")
	case 2:
		return line("(", x, "?", y, ":", g.expression(deep-2), ")")
	case 3:
		return line(x, of(&g.chance, ".", "->"), g.name())
	case 4:
		return line(x, "[", y, "]")
	case 5:
		return line("(", of(&g.chance, "-", "*", "&", "++", "sizeof", "(char)", "(int (*)(int))"), x, ")")
	case 6:
		return line("(", x, "++", ")")
	default:
		return x
	}
}

// statement is a statement that is no declaration.
func (g *grower) statement(deep int) string {
	if deep <= 0 {
		return of(&g.chance, ";", line(g.expression(2), ";"), "break;", "continue;", "return;", line("return", g.expression(2), ";"))
	}
	deep--
	condition := line("(", g.expression(2), ")")
	switch g.below(11) {
	case 0:
		return line("if", condition, g.statement(deep))
	case 1:
		return line("if", condition, "{", g.statement(deep), "} else", g.statement(deep))
	case 2:
		return line(of(&g.chance, "while", "switch"), condition, g.statement(deep))
	case 3:
		return line("do", g.statement(deep), "while", condition, ";")
	case 4, 5:
		return g.scoped(func() string { return g.loop(deep) })
	case 6:
		return line(of(&g.chance, "default", line("case", g.expression(1))), ":", g.statement(deep))
	case 7:
		return line(g.expression(3), ";")
	default:
		return g.scoped(func() string { return g.block(deep) })
	}
}

// loop is a for.
func (g *grower) loop(deep int) string {
	first := of(&g.chance, ";", line(g.expression(2), ";"))
	if !g.one(3) {
		first = g.declaration(1, 2)
	}
	return line("for (", first, of(&g.chance, "", g.expression(2)), ";", of(&g.chance, "", g.expression(2)), ")", g.statement(deep))
}

// block is a block.
func (g *grower) block(deep int) string {
	return line("{", many(g.below(5), func() string {
		if g.one(2) {
			return g.declaration(1+g.below(3)/2, 2)
		}
		return g.statement(deep)
	}), "}")
}

// function is a function of a name with a body.
func (g *grower) function(name string, deep int) string {
	return g.scoped(func() string {
		var params []string
		for range g.below(4) {
			params = append(params, line(of(&g.chance, "", "volatile"), of(&g.chance, "int", "char *", "unsigned"), g.fresh()))
		}
		return line(of(&g.chance, "int", "int", "int", "char"), name, "(", strings.Join(params, ", "), ")", g.block(deep))
	})
}

// unit is a unit in which all names of functions stand for something, mostly.
func (g *grower) unit() string {
	l := []string{"struct s { int a, s; };"}
	for _, name := range g.names {
		if !g.one(40) && (name != "exit" || g.one(20)) {
			l = append(l, line(g.base(), name, of(&g.chance, "", "= a", "[2]"), ";"))
		}
	}
	for _, name := range []string{"f", "g", "h"} {
		if g.one(30) {
			l = append(l, line("int", name, "(", of(&g.chance, "", "int a", "int"), ");"))
		}
		l = append(l, g.function(name, 1+g.below(4)))
	}
	for i := range l[1:] {
		j := g.below(i+1) + 1
		l[i+1], l[j] = l[j], l[i+1]
	}
	return line(l...)
}

// grown is a unit by chance, and its text; the places are by chance, too, so that nothing else tells of them.
func grown(t *testing.T, seed int) (api.Unit, string) {
	t.Helper()
	g := &grower{chance: chance(seed*7919 + 11), names: strings.Fields("a b c d x y exit")[seed%3:]}
	if seed%2 == 0 {
		g.names = g.names[:len(g.names)-1]
	}
	s := g.unit()
	u := unit(t, s)
	g.scatter(&u)
	return u, s
}

// scatter puts everything of a unit at places by chance.
func (c *chance) scatter(u *api.Unit) {
	for i := range u.Globals {
		u.Globals[i].At = c.below(api.MaxText + 1)
	}
	for i := range u.Funcs {
		u.Funcs[i].At = c.below(api.MaxText + 1)
		for j := range u.Funcs[i].Body {
			u.Funcs[i].Body[j].At = c.below(api.MaxText + 1)
		}
	}
}

// file is the text of a file of globals and functions of few names, with bodies that have no scopes, and as many names as there may be, or so, if that is asked for.
func (g *grower) file(isLong bool) string {
	var l []string
	if isLong {
		l = append(l, counted(120+g.below(8), "int k#();"))
	}
	of := func(l ...string) string { return of(&g.chance, l...) }
	for range g.below(12) {
		name := of("a", "b", "c", "d", "e", "f", "g", "h", "i", "j", of("exit", "a", "k1"))
		switch g.below(5) {
		case 0, 1:
			l = append(l, line("int", name, ";"))
		case 2:
			l = append(l, line("int", strings.ToUpper(name), "(", of("", "", "", "int a"), ") { }"))
		default:
			l = append(l, line("int", strings.ToUpper(name), "(", of("", "", "", "int a", "int"), ");"))
		}
	}
	for i := range l {
		j := g.below(i + 1)
		l[i], l[j] = l[j], l[i]
	}
	return line(l...)
}
