package tree_test

import (
	"fmt"
	"regexp"
	"slices"
	"strings"
	"testing"

	"catapult/api"
	"catapult/tree"
	"catapult/types"
)

// What the document's chapter says of trees, reckoned apart from the program, in the plainest way: trees are nested, cut from their ends, and a node's parts are a word of letters that a regular expression must fit.

// The keywords, as they stand in chapter 7.
const plainKeys = " void char short int unsigned struct volatile if else while do for switch case default break continue return sizeof jmp_buf "

var plainName = regexp.MustCompile(`^[a-zA-Z_][a-zA-Z_0-9]{0,30}$`)

// plainIsName tells whether a text is a name.
func plainIsName(s string) bool {
	return plainName.MatchString(s) && !strings.Contains(plainKeys, " "+s+" ")
}

// row is what the chapter and api's list say of a kind: the letter of a node of that kind as a part (e an expression, x its statement, s another statement, d a declaration, n nothing), what its parts' letters must be, and its marks.
type row struct {
	kind   int
	letter string
	parts  string
	marks  string
}

// rows is all kinds.
var rows = []row{
	{api.NInt, "e", ``, ""},
	{api.NString, "e", ``, ""},
	{api.NName, "e", ``, ""},
	{api.NUnary, "e", `e`, "- ~ ! & *"},
	{api.NPre, "e", `e`, "++ --"},
	{api.NPost, "e", `e`, "++ --"},
	{api.NBinary, "e", `ee`, "* / % + - << >> < > <= >= == != & ^ | && ||"},
	{api.NAssign, "e", `ee`, "= *= /= %= += -= <<= >>= &= ^= |="},
	{api.NCond, "e", `eee`, ""},
	{api.NComma, "e", `ee`, ""},
	{api.NCall, "e", `ee{0,8}`, ""},
	{api.NIndex, "e", `ee`, ""},
	{api.NDot, "e", `e`, ""},
	{api.NArrow, "e", `e`, ""},
	{api.NCast, "e", `e`, ""},
	{api.NSizeof, "e", `e`, ""},
	{api.NSizeT, "e", ``, ""},
	{api.NExpr, "x", `e`, ""},
	{api.NBlock, "s", `[xsd]*`, ""},
	{api.NDecl, "d", `e?`, ""},
	{api.NIf, "s", `e[xs]{1,2}`, ""},
	{api.NWhile, "s", `e[xs]`, ""},
	{api.NDo, "s", `[xs]e`, ""},
	{api.NFor, "s", `[xdn][en]{2}[xs]`, ""},
	{api.NSwitch, "s", `e[xs]`, ""},
	{api.NCase, "s", `e[xs]`, ""},
	{api.NDefault, "s", `[xs]`, ""},
	{api.NBreak, "s", ``, ""},
	{api.NCont, "s", ``, ""},
	{api.NReturn, "s", `e?`, ""},
	{api.NNone, "n", ``, ""},
}

// rowOf is what is said of a kind.
func rowOf(kind int) (row, bool) {
	for _, r := range rows {
		if r.kind == kind {
			return r, true
		}
	}
	return row{}, false
}

// marksOf is the marks of a kind; one empty text, if it has none.
func marksOf(kind int) []string {
	r, _ := rowOf(kind)
	return strings.Split(r.marks, " ")
}

// nested is a tree whose nodes have their parts.
type nested struct {
	api.Node
	at    int
	parts []nested
}

// cut cuts the last whole off a list of nodes, from its end.
func cut(t api.Tree) (nested, api.Tree, bool) {
	if len(t) == 0 {
		return nested{}, nil, false
	}
	x := nested{Node: t[len(t)-1], at: len(t) - 1}
	t = t[:len(t)-1]
	for range x.N {
		part, rest, ok := cut(t)
		if !ok {
			return nested{}, nil, false
		}
		t = rest
		x.parts = append([]nested{part}, x.parts...)
	}
	return x, t, x.N >= 0
}

// nest is a tree nested; false, if it is not well formed (but for the numbers of parts of the kinds).
func nest(t api.Tree) (nested, bool) {
	x, rest, ok := cut(t)
	return x, ok && len(rest) == 0
}

// flat is the nodes of a nested tree.
func (x nested) flat() api.Tree {
	var t api.Tree
	for _, part := range x.parts {
		t = append(t, part.flat()...)
	}
	return append(t, x.Node)
}

// plainRight tells whether a node is right by itself.
func plainRight(n api.Node) bool {
	ok := n.At >= 0 && n.At <= 65536
	switch n.Kind {
	case api.NInt:
		return ok && n.Text == "" && (n.Type == "i" && n.Int >= -128 && n.Int <= 2147483647 || n.Type == "u" && n.Int >= 0 && n.Int <= 4294967295)
	case api.NString:
		return ok && n.Int == 0 && n.Type == "" && len(n.Text) <= 4096
	case api.NName, api.NDot, api.NArrow:
		return ok && n.Int == 0 && n.Type == "" && plainIsName(n.Text)
	case api.NCast, api.NSizeT:
		return ok && n.Int == 0 && n.Text == "" && plainIsType(n.Type)
	case api.NDecl:
		return ok && (n.Int == 0 || n.Int == 1) && plainIsName(n.Text) && plainIsType(n.Type) && n.Type[0] != 'v' && n.Type[0] != 'f'
	}
	r, isKind := rowOf(n.Kind)
	return ok && isKind && n.Int == 0 && n.Type == "" && slices.Contains(strings.Split(r.marks, " "), n.Text)
}

// plainIsType tells whether a type may be, whatever its structs are.
func plainIsType(t api.Type) bool {
	e := types.Check(t, nil)
	return e == api.OK || e == api.ErrNone
}

// isOpen tells whether a whole is an open if.
func (x nested) isOpen() bool {
	switch x.Kind {
	case api.NIf:
		return len(x.parts) == 2 || x.parts[2].isOpen()
	case api.NWhile, api.NFor, api.NSwitch, api.NCase, api.NDefault:
		return x.parts[len(x.parts)-1].isOpen()
	}
	return false
}

// fits tells whether a whole has the parts that it may have, all the way down.
func (x nested) fits() bool {
	r, ok := rowOf(x.Kind)
	if !ok {
		return false
	}
	word := ""
	for _, part := range x.parts {
		if !part.fits() {
			return false
		}
		of, _ := rowOf(part.Kind)
		word += of.letter
	}
	return regexp.MustCompile("^(?:"+r.parts+")$").MatchString(word) && !(x.Kind == api.NIf && len(x.parts) == 3 && x.parts[1].isOpen())
}

// depth is how deep a whole is.
func (x nested) depth() int {
	most := 0
	for _, part := range x.parts {
		most = max(most, part.depth())
	}
	return most + 1
}

// plainCheck is what Check tells.
func plainCheck(t api.Tree) api.Errno {
	if len(t) > 4096 {
		return api.ErrLong
	}
	x, ok := nest(t)
	if !ok || !x.fits() {
		return api.ErrTree
	}
	for _, n := range t {
		if !plainRight(n) {
			return api.ErrTree
		}
	}
	if x.depth() > 48 {
		return api.ErrLong
	}
	return api.OK
}

// plainUnit is what CheckUnit tells.
func plainUnit(u api.Unit) api.Fault {
	if len(u.Structs) > 64 || len(u.Globals) > 256 || len(u.Funcs) > 256 {
		return api.Fault{Code: api.ErrLong}
	}
	if f := types.Structs(u.Structs); f.Code != api.OK {
		return f
	}
	wrong := func(i int, e api.Errno) api.Fault { return api.Fault{At: i, Code: e} }
	for i, g := range u.Globals {
		v := g.Var
		if !plainIsName(v.Name) || g.At < 0 || g.At > 65536 || types.Check(v.Type, u.Structs) != api.OK || v.Type[0] == 'v' || v.Type[0] == 'f' {
			return wrong(i, api.ErrTree)
		}
		if len(g.Init) > 4096 {
			return wrong(i, api.ErrLong)
		}
		for _, t := range g.Init {
			if e := plainCheck(t); e != api.OK {
				return wrong(i, e)
			}
			if r, _ := rowOf(t[len(t)-1].Kind); r.letter != "e" {
				return wrong(i, api.ErrTree)
			}
		}
	}
	for i, f := range u.Funcs {
		_, params, e := types.Sign(f.Type)
		ok := plainIsName(f.Name) && f.At >= 0 && f.At <= 65536 && types.Check(f.Type, u.Structs) == api.OK && e == api.OK && len(params) == len(f.Params)
		for j := 0; ok && j < len(params); j++ {
			v := f.Params[j]
			if ok = v.Type == params[j]; len(f.Body) == 0 {
				ok = ok && !v.Volatile && (v.Name == "" || plainIsName(v.Name))
			} else {
				ok = ok && plainIsName(v.Name)
			}
		}
		if !ok {
			return wrong(i, api.ErrTree)
		}
		if len(f.Body) == 0 {
			continue
		}
		if e := plainCheck(f.Body); e != api.OK {
			return wrong(i, e)
		}
		if f.Body[len(f.Body)-1].Kind != api.NBlock {
			return wrong(i, api.ErrTree)
		}
	}
	return api.Fault{}
}

// unplaced is a tree with all places 0.
func unplaced(t api.Tree) api.Tree {
	var to api.Tree
	for _, n := range t {
		n.At = 0
		to = append(to, n)
	}
	return to
}

// node is a tree of a node with a text, and its parts.
func node(kind int, text string, parts ...api.Tree) api.Tree {
	return whole(api.Node{Kind: kind, Text: text}, parts...)
}

// typed is a tree of a node with a type, and its parts.
func typed(kind int, code string, parts ...api.Tree) api.Tree {
	return whole(api.Node{Kind: kind, Type: api.Type(code)}, parts...)
}

// whole is a tree of a node and its parts.
func whole(n api.Node, parts ...api.Tree) api.Tree {
	var t api.Tree
	for _, part := range parts {
		t = append(t, part...)
	}
	n.N = len(parts)
	return append(t, n)
}

// name is the tree of a name.
func name(s string) api.Tree { return node(api.NName, s) }

// number is the tree of a number.
func number(n int, code string) api.Tree {
	return api.Tree{{Kind: api.NInt, Int: n, Type: api.Type(code)}}
}

// nothing is the tree of nothing.
func nothing() api.Tree { return node(api.NNone, "") }

// empty is the tree of a block of none.
func empty() api.Tree { return node(api.NBlock, "") }

// least is the least tree that is right whose last node is of a kind.
func least(kind int) api.Tree {
	switch kind {
	case api.NInt:
		return number(7, "i")
	case api.NString:
		return node(kind, "s")
	case api.NName:
		return name("a")
	case api.NDot, api.NArrow:
		return node(kind, "m", name("a"))
	case api.NCast:
		return typed(kind, "i", name("a"))
	case api.NSizeT:
		return typed(kind, "i")
	case api.NDecl:
		return api.Tree{{Kind: kind, Text: "a", Type: "i"}}
	}
	r, ok := rowOf(kind)
	if !ok {
		return api.Tree{{Kind: kind}}
	}
	for _, word := range []string{"", "e", "ee", "eee", "es", "se", "s", "ees", "nnns"} {
		if regexp.MustCompile("^(?:" + r.parts + ")$").MatchString(word) {
			return node(kind, marksOf(kind)[0], partsOf(word)...)
		}
	}
	panic("no parts")
}

// partsOf is a small part for each letter of a word.
func partsOf(word string) []api.Tree {
	var parts []api.Tree
	for _, b := range word {
		parts = append(parts, map[rune]api.Tree{'e': name("a"), 's': empty(), 'n': nothing(), 'd': least(api.NDecl)}[b])
	}
	return parts
}

// same fails where an answer is another one than what is wanted (an empty list is as none).
func same(t *testing.T, what string, got, want any) {
	t.Helper()
	if g, w := fmt.Sprint(got), fmt.Sprint(want); g != w {
		t.Errorf("%.300s: %.900s, want %.900s", what, g, w)
	}
}

// all is what a call answers, in a row.
func all(l ...any) string { return strings.TrimSuffix(fmt.Sprintln(l...), "\n") }

// printed is the text of an expression that is right.
func printed(t *testing.T, x api.Tree) string {
	t.Helper()
	s, e := tree.PrintExpr(x)
	if e != api.OK {
		t.Fatalf("PrintExpr of %.600v: %v", x, e)
	}
	return s
}

// lines is the text of a unit that is right.
func lines(t *testing.T, u api.Unit) string {
	t.Helper()
	s, f := tree.Print(u)
	if f != (api.Fault{}) {
		t.Fatalf("Print of %.600v: %v", u, f)
	}
	return s
}

// function is a unit of a function with one statement.
func function(statement api.Tree) api.Unit {
	return api.Unit{Funcs: []api.Func{{Name: "f", Type: "f()v", Body: node(api.NBlock, "", statement)}}}
}
