package parse_test

import (
	"slices"

	"catapult/api"
)

// Statements and units by chance.

// statement puts a statement; one that is shut ends by no if to which an else behind it would belong.
func (g *grower) statement(deep int, shut bool) {
	kind := g.below(14)
	if deep <= 0 {
		kind = 9 + g.below(5)
	}
	deep -= 1 + g.below(2)
	switch kind {
	case 0:
		g.choice(deep, shut)
	case 1, 2:
		key := of(&g.chance, "while", "switch")
		at := g.token(key)
		g.condition(deep)
		g.statement(deep, shut)
		g.put(map[string]int{"while": api.NWhile, "switch": api.NSwitch}[key], 2, at, "")
	case 3:
		at := g.token("do")
		g.statement(deep, false)
		g.token("while")
		g.condition(deep)
		g.token(";")
		g.put(api.NDo, 2, at, "")
	case 4, 5:
		g.loop(deep, shut)
	case 6:
		at := g.token("case")
		g.expression(condLevel, deep)
		g.token(":")
		g.statement(deep, shut)
		g.put(api.NCase, 2, at, "")
	case 7:
		at := g.tokens("default", ":")
		g.statement(deep, shut)
		g.put(api.NDefault, 1, at, "")
	case 8:
		g.block(deep)
	case 9:
		g.put(api.NBlock, 0, g.token(";"), "")
	case 10:
		key := of(&g.chance, "break", "continue")
		g.put(map[string]int{"break": api.NBreak, "continue": api.NCont}[key], 0, g.tokens(key, ";"), "")
	case 11:
		at, n := g.token("return"), g.below(2)
		if n == 1 {
			g.expression(commaLevel, deep)
		}
		g.token(";")
		g.put(api.NReturn, n, at, "")
	default:
		g.evaluated(deep)
	}
}

// evaluated puts an expression as a statement.
func (g *grower) evaluated(deep int) {
	at := g.expression(commaLevel, deep)
	g.token(";")
	g.put(api.NExpr, 1, at, "")
}

// condition puts an expression in brackets.
func (g *grower) condition(deep int) {
	g.token("(")
	g.expression(commaLevel, deep)
	g.token(")")
}

// choice puts an if, with an else or without one.
func (g *grower) choice(deep int, shut bool) {
	at := g.token("if")
	g.condition(deep)
	if !shut && g.one(2) {
		g.statement(deep, false)
		g.put(api.NIf, 2, at, "")
		return
	}
	g.statement(deep, true)
	g.token("else")
	g.statement(deep, shut)
	g.put(api.NIf, 3, at, "")
}

// loop puts a for.
func (g *grower) loop(deep int, shut bool) {
	at := g.tokens("for", "(")
	switch g.below(3) {
	case 0:
		g.token(";")
		g.put(api.NNone, 0, 0, "")
	case 1:
		g.evaluated(deep)
	default:
		g.declaration(deep, 1)
	}
	for _, behind := range []string{";", ")"} {
		if g.one(2) {
			g.put(api.NNone, 0, 0, "")
		} else {
			g.expression(commaLevel, deep)
		}
		g.token(behind)
	}
	g.statement(deep, shut)
	g.put(api.NFor, 4, at, "")
}

// block puts a block.
func (g *grower) block(deep int) {
	at, n := g.token("{"), 0
	for range g.below(4) {
		if g.one(3) {
			n += g.declaration(deep, 3)
		} else {
			g.statement(deep, false)
			n++
		}
	}
	g.token("}")
	g.put(api.NBlock, n, at, "")
}

// declaration puts a declaration of at most so many variables, and tells how many it has.
func (g *grower) declaration(deep, most int) int {
	isVolatile := g.below(2)
	if isVolatile == 1 {
		g.token("volatile")
	}
	names := g.names(most)
	g.variables(names, func(v variable, at int) {
		parts := g.below(2)
		if parts == 1 {
			g.token("=")
			g.expression(assignLevel, deep)
		}
		g.nodes = append(g.nodes, api.Node{Kind: api.NDecl, N: parts, At: at, Int: isVolatile, Text: v.Name, Type: v.Type})
	})
	return len(names)
}

// names is one name or more, at most so many.
func (g *grower) names(most int) []string {
	l := []string{g.name()}
	for len(l) < most && g.one(2) {
		l = append(l, g.name())
	}
	return l
}

// variables puts what variables of these names begin with, their declarators, what is put behind each one, and the end; it tells the first token's place.
func (g *grower) variables(names []string, behind func(v variable, at int)) int {
	from, base := 0, ""
	for i, name := range names {
		v := g.variable(base, local, 1)
		v.Name = name
		if i == 0 {
			base = v.base
			from = g.tokens(g.spelled(base)...)
		} else {
			g.token(",")
		}
		behind(v, g.declarator(v))
	}
	g.token(";")
	return from
}

// tree is what is put, as a tree of its own.
func (g *grower) tree(put func()) api.Tree {
	before := g.nodes
	g.nodes = nil
	put()
	t := g.nodes
	g.nodes = before
	return t
}

// unit puts a unit, and tells what it must be read as.
func (g *grower) unit(deep int) api.Unit {
	var u api.Unit
	for range 1 + g.below(6) {
		switch name := g.name(); {
		case g.one(3) && !g.hasStruct(name):
			g.structure(name)
		case g.one(2):
			u.Globals = append(u.Globals, g.globals(deep)...)
		default:
			u.Funcs = append(u.Funcs, g.function(deep))
		}
	}
	u.Structs = g.structs
	return u
}

// hasStruct tells whether there is a struct of that name.
func (g *grower) hasStruct(name string) bool {
	return slices.ContainsFunc(g.structs, func(s api.Struct) bool { return s.Name == name })
}

// structure puts a struct; its members' types may name it behind a pointer alone, so it is known when it is whole.
func (g *grower) structure(name string) {
	s := api.Struct{Name: name}
	g.tokens("struct", name, "{")
	for i := range 1 + g.below(3) {
		g.variables([][]string{{"a", "b"}, {"c"}, {"t", "x", "f"}}[i], func(v variable, at int) {
			s.Members = append(s.Members, api.Member{Name: v.Name, Type: v.Type})
		})
	}
	g.tokens("}", ";")
	g.structs = append(g.structs, s)
}

// globals puts a declaration of globals.
func (g *grower) globals(deep int) []api.Global {
	var l []api.Global
	isVolatile, at := g.one(3), 0
	if isVolatile {
		at = g.token("volatile")
	}
	from := g.variables(g.names(3), func(v variable, _ int) {
		x := api.Global{Var: v.Var}
		x.Var.Volatile = isVolatile
		if n := g.below(4); n > 0 {
			g.token("=")
			x.Init = g.values(n-1, deep)
		}
		l = append(l, x)
	})
	if !isVolatile {
		at = from
	}
	for i := range l {
		l[i].At = at
	}
	return l
}

// values puts values, in braces if they are not one alone.
func (g *grower) values(n, deep int) []api.Tree {
	value := func() api.Tree { return g.tree(func() { g.expression(assignLevel, deep) }) }
	if n == 0 {
		return []api.Tree{value()}
	}
	var l []api.Tree
	g.token("{")
	for i := range n {
		if i > 0 {
			g.token(",")
		}
		l = append(l, value())
	}
	if !g.plain && g.layout.one(2) {
		g.token(",")
	}
	g.token("}")
	return l
}

// function puts a prototype, or a function.
func (g *grower) function(deep int) api.Func {
	v, hasBody := g.variable("", called, 2), g.one(2)
	f := api.Func{Name: v.Name, Type: v.Type}
	params := v.made[len(v.made)-1].params
	for i := range params {
		if hasBody && params[i].Name == "" {
			params[i].Name = g.name()
		}
		x := params[i].Var
		x.Volatile = x.Volatile && hasBody
		f.Params = append(f.Params, x)
	}
	f.At = g.tokens(g.spelled(v.base)...)
	g.declarator(v)
	if hasBody {
		f.Body = g.tree(func() { g.block(deep) })
	} else {
		g.token(";")
	}
	return f
}
