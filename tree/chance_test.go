package tree_test

import (
	"slices"
	"strconv"
	"strings"

	"catapult/api"
	"catapult/lex"
	"catapult/types"
)

// The plainest layout: every expression in brackets, of which those are taken away again without which the same is read.

// open and shut stand for brackets that may be taken away.
const (
	open = "{("
	shut = ")}"
)

// bracketed is the tokens of a whole, each expression in it in brackets.
func (x nested) bracketed() []string {
	l := x.spelled()
	if r, _ := rowOf(x.Kind); r.letter == "e" {
		l = slices.Concat([]string{open}, l, []string{shut})
	}
	return l
}

// row is tokens and wholes, in a row: a # is the next part, $ all parts that are left, with commas between two.
func (x nested) row(text string) []string {
	var l []string
	parts := x.parts
	for _, token := range strings.Fields(text) {
		switch token {
		case "#":
			l = append(l, parts[0].bracketed()...)
			parts = parts[1:]
		case "$":
			for i, part := range parts {
				if i > 0 {
					l = append(l, ",")
				}
				l = append(l, part.bracketed()...)
			}
		default:
			l = append(l, token)
		}
	}
	return l
}

// spelled is the tokens of a whole, each expression within it in brackets.
func (x nested) spelled() []string {
	switch x.Kind {
	case api.NInt:
		if x.Int < 0 {
			return []string{lex.Char(byte(x.Int))}
		}
		if x.Type == "u" && x.Int < 1<<31 {
			return []string{strconv.Itoa(x.Int) + "u"}
		}
		return []string{strconv.Itoa(x.Int)}
	case api.NString:
		return []string{lex.Quote(x.Text)}
	case api.NBlock:
		return x.row("{ " + strings.Repeat("# ", len(x.parts)) + "}")
	case api.NDecl:
		text := strings.Repeat("volatile ", x.Int) + strings.Replace(textOf(x.Type), "@", x.Text, 1)
		return x.row(text + strings.Repeat(" = #", len(x.parts)) + " ;")
	case api.NCast, api.NSizeT:
		of := "( " + strings.Replace(textOf(x.Type), "@", "", 1) + " )"
		if x.Kind == api.NCast {
			return x.row(of + " #")
		}
		return x.row("sizeof " + of)
	case api.NIf:
		return x.row("if ( # ) #" + strings.Repeat(" else #", len(x.parts)-2))
	case api.NReturn:
		return x.row("return " + strings.Repeat("# ", len(x.parts)) + ";")
	case api.NFor:
		ahead := "# ;"
		if x.parts[0].Kind != api.NNone && x.parts[0].Kind != api.NExpr {
			ahead = "#"
		} else if x.parts[0].Kind == api.NExpr {
			x.parts = slices.Concat(x.parts[0].parts, x.parts[1:])
		}
		return x.row("for ( " + ahead + " # ; # ) #")
	}
	return x.row(strings.ReplaceAll(map[int]string{
		api.NName: "@", api.NUnary: "@ #", api.NPre: "@ #", api.NPost: "# @", api.NBinary: "# @ #", api.NAssign: "# @ #", api.NCond: "# ? # : #", api.NComma: "# , #",
		api.NCall: "# ( $ )", api.NIndex: "# [ # ]", api.NDot: "# . @", api.NArrow: "# -> @", api.NSizeof: "sizeof #", api.NExpr: "# ;", api.NWhile: "while ( # ) #", api.NDo: "do # while ( # ) ;",
		api.NSwitch: "switch ( # ) #", api.NCase: "case # : #", api.NDefault: "default : #", api.NBreak: "break ;", api.NCont: "continue ;", api.NNone: "",
	}[x.Kind], "@", x.Text))
}

// textOf is the declaration of @ as a type that is known.
func textOf(t api.Type) string {
	for _, k := range known {
		if k[0] == string(t) {
			return k[1]
		}
	}
	panic("unknown type")
}

// joined is tokens as a text, brackets as they are read.
func joined(l []string) string {
	return strings.Join(strings.Fields(strings.NewReplacer(open, "(", shut, ")").Replace(strings.Join(l, " "))), " ")
}

// plainLayout is the layout of a tree whose types are known: all brackets are taken away without which the same is read.
func plainLayout(t api.Tree, what func(*reader) api.Tree) string {
	x, _ := nest(t)
	l := x.bracketed()
	var within []int
	for i, token := range l {
		switch token {
		case open:
			within = append(within, i)
		case shut:
			from := within[len(within)-1]
			within = within[:len(within)-1]
			l[from], l[i] = "", ""
			if back, ok := read(joined(l), what); !ok || all(back) != all(unplaced(t)) {
				l[from], l[i] = open, shut
			}
		}
	}
	return joined(l)
}

// chance is numbers that look as if they came by chance, and are always the same.
type chance uint32

func (c *chance) next() int {
	*c = *c*1664525 + 1013904223
	return int(*c >> 8)
}

func (c *chance) below(n int) int { return c.next() % n }

// of is one of its arguments.
func of[T any](c *chance, l ...T) T { return l[c.below(len(l))] }

// place is a place in a text.
func (c *chance) place() int { return of(c, 0, 1, c.below(100), 65535, 65536) }

// placed is a tree with places by chance.
func (c *chance) placed(t api.Tree) api.Tree {
	var to api.Tree
	for _, n := range t {
		n.At = c.place()
		to = append(to, n)
	}
	return to
}

// name is a name.
func (c *chance) name() string {
	return of(c, "a", "b", "f", "t", "x", "_", "int_", strings.Repeat("n", 31))
}

// code is a type that is known and fits.
func (c *chance) code(fits func(api.Type) bool) string {
	for {
		if code := of(c, known...)[0]; fits(api.Type(code)) {
			return code
		}
	}
}

// isVariable tells whether a type is that of a variable.
func isVariable(t api.Type) bool { return t[0] != 'v' && t[0] != 'f' }

// constant is a number, a text or a name.
func (c *chance) constant() api.Tree {
	switch c.below(6) {
	case 0:
		return number(of(c, 0, 1, 7, 2147483647), of(c, "i", "u"))
	case 1:
		return of(c, number(2147483648, "u"), number(4294967295, "u"), number(-1, "i"), number(-128, "i"), number(c.below(128)-128, "i"))
	case 2:
		return node(api.NString, of(c, "", "a", "\"\\\n\x00\xff", "%"))
	}
	return name(c.name())
}

// expression is an expression, of at most so many levels.
func (c *chance) expression(deep int) api.Tree {
	if deep < 2 {
		return c.constant()
	}
	next := func() api.Tree { return c.expression(deep - 1 - c.below(2)) }
	kind := of(c, rows...).kind
	for kind > api.NSizeT {
		kind = of(c, rows...).kind
	}
	switch mark := of(c, marksOf(kind)...); kind {
	case api.NInt, api.NString, api.NName:
		return c.constant()
	case api.NSizeT:
		return typed(kind, c.code(func(api.Type) bool { return true }))
	case api.NCast:
		return typed(kind, c.code(func(api.Type) bool { return true }), next())
	case api.NDot, api.NArrow:
		return node(kind, c.name(), next())
	case api.NUnary, api.NPre, api.NPost, api.NSizeof:
		return node(kind, mark, next())
	case api.NCond:
		return node(kind, mark, next(), next(), next())
	case api.NCall:
		parts := []api.Tree{next()}
		for range of(c, 0, 1, 2, c.below(9)) {
			parts = append(parts, next())
		}
		return node(kind, mark, parts...)
	default:
		return node(kind, mark, next(), next())
	}
}

// declaration is that of a local.
func (c *chance) declaration(deep int) api.Tree {
	n := api.Node{Kind: api.NDecl, Int: c.below(2), Text: c.name(), Type: api.Type(c.code(isVariable))}
	if c.below(2) == 0 {
		return whole(n)
	}
	return whole(n, c.expression(deep))
}

// statement is a statement that is no declaration, of at most some more levels than so many.
func (c *chance) statement(deep int) api.Tree {
	if deep < 2 {
		return of(c, empty(), node(api.NBreak, ""), node(api.NCont, ""), node(api.NReturn, ""), node(api.NExpr, "", c.constant()), node(api.NReturn, "", c.constant()))
	}
	e := func() api.Tree { return c.expression(c.below(3) + 1) }
	s := func() api.Tree { return c.statement(deep - 1) }
	kind := of(c, api.NExpr, api.NBlock, api.NBlock, api.NIf, api.NIf, api.NIf, api.NWhile, api.NDo, api.NFor, api.NFor, api.NSwitch, api.NCase, api.NDefault, api.NReturn)
	switch kind {
	case api.NExpr:
		return node(kind, "", e())
	case api.NReturn:
		return of(c, node(kind, ""), node(kind, "", e()))
	case api.NBlock:
		return c.block(deep)
	case api.NDefault:
		return node(kind, "", s())
	case api.NDo:
		return node(kind, "", s(), e())
	case api.NFor:
		return node(kind, "", of(c, nothing(), node(api.NExpr, "", e()), c.declaration(2)), of(c, nothing(), e()), of(c, nothing(), e()), s())
	case api.NIf:
		then := s()
		if x, _ := nest(then); c.below(2) == 0 || x.isOpen() {
			return node(kind, "", e(), then)
		}
		return node(kind, "", e(), then, s())
	}
	return node(kind, "", e(), s())
}

// block is a block.
func (c *chance) block(deep int) api.Tree {
	var parts []api.Tree
	for range c.below(4) {
		parts = append(parts, of(c, c.statement(deep-1), c.statement(deep-1), c.declaration(2)))
	}
	return node(api.NBlock, "", parts...)
}

// tree is a tree that is right.
func (c *chance) tree() api.Tree {
	return c.placed(of(c, c.expression(2+c.below(5)), c.statement(2+c.below(4)), c.block(3), c.declaration(3)))
}

// wrong is a tree with some things changed, most often one that is not right.
func (c *chance) wrong(t api.Tree) api.Tree {
	t = slices.Clone(t)
	for range 1 + c.below(2) {
		if len(t) == 0 {
			break
		}
		at := c.below(len(t))
		n := &t[at]
		switch c.below(12) {
		case 0:
			n.Kind = of(c, of(c, rows...).kind, n.Kind+c.below(3)-1, c.below(40)-2)
		case 1:
			n.N += of(c, -1, 1, -n.N-1, 1<<40)
		case 2:
			n.Int = of(c, 0, 1, -1, 2, -128, -129, 2147483647, 2147483648, 4294967295, 4294967296)
		case 3:
			n.Text = of(c, "", "a", "-", "+", "=", "++", "int", "1", strings.Repeat("s", 4097), strings.Repeat("n", 32), of(c, strings.Fields(of(c, rows...).marks+" a")...))
		case 4:
			n.Type = api.Type(of(c, "", "i", "u", "v", "c", "f()v", "Sx;", "a0:i", "a2:v", "x", "pv", strings.Repeat("p", 48)+"i", strings.Repeat("p", 47)+"i"))
		case 5:
			n.At = of(c, -1, 65537, 0, 65536)
		case 6:
			t = slices.Delete(t, at, at+1)
		case 7:
			t = slices.Insert(t, at, t[c.below(len(t))])
		case 8:
			other := c.below(len(t))
			t[at], t[other] = t[other], t[at]
		case 9, 10:
			t = slices.Insert(t, at+1, of(c, api.Node{Kind: api.NUnary, N: 1, Text: "-"}, api.Node{Kind: api.NNone}, api.Node{Kind: api.NIf, N: 2}, api.Node{Kind: api.NExpr, N: 1}, api.Node{Kind: api.NWhile, N: 2}))
		default:
			t = t[:at]
		}
	}
	return t
}

// structs is structs of the types that are known.
func structs() []api.Struct {
	return []api.Struct{{Name: "t", Members: []api.Member{{Name: "a", Type: "c"}, {Name: "t", Type: "pSt;"}}}, {Name: "f", Members: []api.Member{{Name: "f", Type: "pf(pSf;)v"}, {Name: "b", Type: "a2:a3:s"}, {Name: "j", Type: "j"}}}}
}

// unit is a unit that is right.
func (c *chance) unit() api.Unit {
	u := api.Unit{Structs: structs()}
	for range c.below(4) {
		g := api.Global{At: c.place(), Var: api.Var{Name: c.name(), Type: api.Type(c.code(isVariable)), Volatile: c.below(3) == 0}}
		for range of(c, 0, 1, c.below(4)) {
			g.Init = append(g.Init, c.placed(c.expression(1+c.below(3))))
		}
		u.Globals = append(u.Globals, g)
	}
	for range c.below(4) {
		u.Funcs = append(u.Funcs, c.function())
	}
	return u
}

// function is a function that is right.
func (c *chance) function() api.Func {
	f := api.Func{At: c.place(), Name: c.name()}
	var params []api.Type
	body := c.below(3) > 0
	for range of(c, 0, 1, 2, c.below(9)) {
		v := api.Var{Name: c.name(), Type: api.Type(c.code(types.IsScalar)), Volatile: body && c.below(3) == 0}
		if !body && c.below(2) == 0 {
			v.Name = ""
		}
		f.Params = append(f.Params, v)
		params = append(params, v.Type)
	}
	f.Type, _ = types.Func(api.Type(c.code(func(t api.Type) bool { return t == "v" || types.IsScalar(t) })), params...)
	if body {
		f.Body = c.placed(c.block(3))
	}
	return f
}
