package parse_test

import (
	"slices"
	"strconv"
	"strings"

	"catapult/api"
	"catapult/types"
)

// Texts by chance, and beside each one what it must be read as: what is put down as a token is put down as a node, too.

// chance is numbers that look as if they came by chance, and are always the same.
type chance uint32

func (c *chance) below(n int) int {
	*c = *c*1664525 + 1013904223
	return int(*c>>8) % n
}

// one is true once in so many times.
func (c *chance) one(in int) bool { return c.below(in) == 0 }

// of is one of its arguments.
func of[T any](c *chance, l ...T) T { return l[c.below(len(l))] }

// grower is a text that grows, and the tree that it must be read as. What it means comes by one chance, how it is laid out by another.
type grower struct {
	chance
	layout  chance
	plain   bool // one blank between two tokens, and no bracket that may be left out
	only    int  // the part of an expression, from 1 on, that is in brackets all the same; below 0 all are
	parts   int  // how many there are so far
	text    strings.Builder
	nodes   api.Tree
	structs []api.Struct
}

// newGrower is a text of a seed, laid out by another; plainly, if that is 0.
func newGrower(seed, layout int) *grower {
	return &grower{chance: chance(seed*7919 + 1), layout: chance(layout*104729 + 3), plain: layout == 0}
}

// token puts a token, and tells its place.
func (g *grower) token(s string) int {
	if before := g.text.String(); before != "" {
		g.blank(before[len(before)-1], s[0])
	}
	at := g.text.Len()
	g.text.WriteString(s)
	return at
}

// tokens puts tokens in a row, and tells the first one's place.
func (g *grower) tokens(l ...string) int {
	at := g.token(l[0])
	for _, s := range l[1:] {
		g.token(s)
	}
	return at
}

// blank puts blank between two bytes; none, where nothing is joined by that.
func (g *grower) blank(before, behind byte) {
	const apart = "()[]{};,~?:"
	s := of(&g.layout, " ", " ", "", "\n", "\t\v\f\r ", "/**/", "/* a; // */", "// } */\n")
	switch {
	case g.plain:
		s = " "
	case s == "" && strings.IndexByte(apart, before) < 0 && strings.IndexByte(apart, behind) < 0, before == '/':
		s = " " + s
	}
	g.text.WriteString(s)
}

// put puts a node.
func (g *grower) put(kind, parts, at int, text string) {
	g.nodes = append(g.nodes, api.Node{Kind: kind, N: parts, At: at, Text: text})
}

// name is a name.
func (g *grower) name() string {
	return of(&g.chance, "a", "b", "f", "t", "x", "_", "int_", "main", strings.Repeat("n", 31))
}

// What types are made of around a base, from it on outwards: pointers, arrays, functions.
type made struct {
	kind   byte
	count  int
	params []variable
}

// variable is what is declared: its type, taken apart.
type variable struct {
	api.Var
	base string
	made []made
}

// Roles of what is declared.
const (
	local = iota
	argument
	called
	anything
)

// fits tells whether a type may have a role.
func (g *grower) fits(t api.Type, role int) bool {
	e := types.Check(t, g.structs)
	_, _, noFunction := types.Sign(t)
	switch role {
	case anything:
		return e == api.OK || e == api.ErrNone
	case called:
		return e == api.OK && noFunction == api.OK
	case argument:
		decayed, _ := types.Decay(t)
		return types.Check(t, g.structs) == api.OK && types.IsScalar(decayed)
	}
	return e == api.OK && t != "v" && noFunction != api.OK
}

// bases is what types begin with.
func (g *grower) bases() []string {
	l := []string{"c", "i", "i", "s", "u", "j", "v", "v", "Snone;"}
	for _, s := range g.structs {
		l = append(l, "S"+s.Name+";")
	}
	return l
}

// variable is a variable of a base, or of any, for a role.
func (g *grower) variable(base string, role, deep int) variable {
	for {
		v := variable{base: base}
		if base == "" {
			v.base = of(&g.chance, g.bases()...)
		}
		for range g.below(4) {
			v.made = append(v.made, g.made(deep))
		}
		t := api.Type(v.base)
		for _, m := range v.made {
			t = m.code() + t
		}
		if g.fits(t, role) {
			v.Name, v.Type = g.name(), t
			return v
		}
	}
}

// made is a pointer, an array or a function.
func (g *grower) made(deep int) made {
	m := made{kind: of[byte](&g.chance, 'p', 'p', 'a', 'f')}
	if m.kind == 'a' {
		m.count = 1 + g.below(3)
	}
	if m.kind == 'f' && deep > 0 {
		for range g.below(4) {
			v := g.variable("", argument, deep-1)
			v.Volatile = g.one(4)
			v.Type, _ = types.Decay(v.Type)
			if g.one(3) {
				v.Name = ""
			}
			m.params = append(m.params, v)
		}
	}
	return m
}

// code is what stands in a type's code ahead of what it is of.
func (m made) code() api.Type {
	switch m.kind {
	case 'a':
		return api.Type("a" + strconv.Itoa(m.count) + ":")
	case 'f':
		var l []string
		for _, v := range m.params {
			l = append(l, string(v.Type))
		}
		return api.Type("f(" + strings.Join(l, ",") + ")")
	}
	return "p"
}

// nameMark stands ahead of the name that is declared.
const nameMark = "@"

// spelled is the tokens of a type that begins types.
func (g *grower) spelled(base string) []string {
	switch base {
	case "c":
		return []string{"char"}
	case "s":
		return of(&g.layout, []string{"short"}, []string{"short", "int"})
	case "i":
		return []string{"int"}
	case "u":
		return of(&g.layout, []string{"unsigned"}, []string{"unsigned", "int"})
	case "j":
		return []string{"jmp_buf"}
	case "v":
		return []string{"void"}
	}
	return []string{"struct", strings.Trim(base, "S;")}
}

// around is tokens with what a variable's type is made of around them, a mark ahead of its name.
func (g *grower) around(v variable) []string {
	var l []string
	if v.Name != "" {
		l = []string{nameMark + v.Name}
	}
	bracket := func(must bool) {
		if must || len(l) > 0 && !g.plain && g.layout.one(5) {
			l = slices.Concat([]string{"("}, l, []string{")"})
		}
	}
	bracket(false)
	ahead := false
	for _, m := range slices.Backward(v.made) {
		switch m.kind {
		case 'p':
			l = slices.Concat([]string{"*"}, l)
		case 'a':
			bracket(ahead)
			l = append(l, "[", of(&g.layout, strconv.Itoa(m.count), "0x"+strconv.Itoa(m.count), `'\x0`+strconv.Itoa(m.count)+"'"), "]")
		case 'f':
			bracket(ahead)
			l = slices.Concat(l, []string{"("}, g.params(m.params), []string{")"})
		}
		ahead = m.kind == 'p'
		before := len(l)
		bracket(false)
		ahead = ahead && len(l) == before
	}
	return l
}

// params is the tokens of parameters; their names are no names that are declared.
func (g *grower) params(l []variable) []string {
	if len(l) == 0 {
		return of(&g.layout, nil, []string{"void"})
	}
	var tokens []string
	for i, v := range l {
		if i > 0 {
			tokens = append(tokens, ",")
		}
		if v.Volatile {
			tokens = append(tokens, "volatile")
		}
		tokens = append(tokens, g.spelled(v.base)...)
		for _, s := range g.around(v) {
			tokens = append(tokens, strings.TrimPrefix(s, nameMark))
		}
	}
	return tokens
}

// declarator puts a declarator, and tells where its name stands.
func (g *grower) declarator(v variable) int {
	at := -1
	for _, s := range g.around(v) {
		place := g.token(strings.TrimPrefix(s, nameMark))
		if strings.HasPrefix(s, nameMark) {
			at = place
		}
	}
	return at
}

// typeName puts a type in brackets, and tells it.
func (g *grower) typeName() (api.Type, int) {
	v := g.variable("", anything, 1)
	v.Name = ""
	at := g.token("(")
	g.tokens(g.spelled(v.base)...)
	g.declarator(v)
	g.token(")")
	return v.Type, at
}

// Levels of expressions, from the loosest; between them those of marks.
const (
	commaLevel = iota
	assignLevel
	condLevel
	markLevel
	castLevel  = 13
	unaryLevel = 14
	tightLevel = 15
)

// marks is the marks between two parts, from the loosest.
var marks = []string{"||", "&&", "|", "^", "&", "== !=", "< > <= >=", "<< >>", "+ -", "* / %"}

// expression puts an expression that is no looser than a level, and tells where its first token stands.
func (g *grower) expression(loosest, deep int) int {
	g.parts++
	if g.only < 0 || g.only == g.parts || !g.plain && g.layout.one(6) {
		at := g.token("(")
		g.bare(loosest, deep)
		g.token(")")
		return at
	}
	return g.bare(loosest, deep)
}

// bare puts an expression of some level; in brackets, if that is looser than the one that is asked for.
func (g *grower) bare(loosest, deep int) int {
	if deep <= 0 {
		return g.atom()
	}
	deep -= 1 + g.below(2)
	level := g.below(tightLevel + 3)
	if level < loosest {
		at := g.token("(")
		g.spread(level, deep)
		g.token(")")
		return at
	}
	return g.spread(level, deep)
}

// spread puts an expression of a level.
func (g *grower) spread(level, deep int) int {
	var at int
	switch {
	case level == commaLevel:
		at = g.expression(commaLevel, deep)
		g.token(",")
		g.expression(assignLevel, deep)
		g.put(api.NComma, 2, at, "")
	case level == assignLevel:
		at = g.expression(unaryLevel, deep)
		mark := of(&g.chance, "=", "*=", "/=", "%=", "+=", "-=", "<<=", ">>=", "&=", "^=", "|=")
		g.token(mark)
		g.expression(assignLevel, deep)
		g.put(api.NAssign, 2, at, mark)
	case level == condLevel:
		at = g.expression(markLevel, deep)
		g.token("?")
		g.expression(commaLevel, deep)
		g.token(":")
		g.expression(condLevel, deep)
		g.put(api.NCond, 3, at, "")
	case level < castLevel:
		at = g.expression(level, deep)
		mark := of(&g.chance, strings.Fields(marks[level-markLevel])...)
		g.token(mark)
		g.expression(level+1, deep)
		g.put(api.NBinary, 2, at, mark)
	case level == castLevel:
		t, at := g.typeName()
		g.expression(castLevel, deep)
		g.nodes = append(g.nodes, api.Node{Kind: api.NCast, N: 1, At: at, Type: t})
		return at
	case level == unaryLevel:
		return g.ahead(deep)
	default:
		return g.behind(deep)
	}
	return at
}

// ahead puts an expression with a mark or sizeof ahead.
func (g *grower) ahead(deep int) int {
	mark := of(&g.chance, "-", "~", "!", "&", "*", "++", "--", "sizeof", "sizeof(")
	if mark == "sizeof(" {
		at := g.token("sizeof")
		t, _ := g.typeName()
		g.nodes = append(g.nodes, api.Node{Kind: api.NSizeT, At: at, Type: t})
		return at
	}
	at := g.token(mark)
	switch mark {
	case "++", "--":
		g.expression(unaryLevel, deep)
		g.put(api.NPre, 1, at, mark)
	case "sizeof":
		g.expression(unaryLevel, deep)
		g.put(api.NSizeof, 1, at, "")
	default:
		g.expression(castLevel, deep)
		g.put(api.NUnary, 1, at, mark)
	}
	return at
}

// behind puts an expression with something behind its first part.
func (g *grower) behind(deep int) int {
	at := g.expression(tightLevel, deep)
	switch mark := of(&g.chance, "++", "--", ".", "->", "[", "("); mark {
	case "++", "--":
		g.token(mark)
		g.put(api.NPost, 1, at, mark)
	case ".", "->":
		name := g.name()
		g.tokens(mark, name)
		g.put(map[string]int{".": api.NDot, "->": api.NArrow}[mark], 1, at, name)
	case "[":
		g.token("[")
		g.expression(commaLevel, deep)
		g.token("]")
		g.put(api.NIndex, 2, at, "")
	case "(":
		g.token("(")
		n := g.below(4)
		for i := range n {
			if i > 0 {
				g.token(",")
			}
			g.expression(assignLevel, deep)
		}
		g.token(")")
		g.put(api.NCall, 1+n, at, "")
	}
	return at
}

// atom puts a number, a character, a text or a name.
func (g *grower) atom() int {
	number := func(text string, n int, t api.Type) int {
		at := g.token(text)
		g.nodes = append(g.nodes, api.Node{Kind: api.NInt, At: at, Int: n, Type: t})
		return at
	}
	switch g.below(8) {
	case 0:
		return number("0x1F", 31, "i")
	case 1:
		return number("7u", 7, "u")
	case 2:
		return number("2147483648", 1<<31, "u")
	case 3:
		return number(`'\xff'`, -1, "i")
	case 4:
		at := g.token(`"a;\n"`)
		g.put(api.NString, 0, at, "a;\n")
		return at
	}
	name := g.name()
	at := g.token(name)
	g.put(api.NName, 0, at, name)
	return at
}
