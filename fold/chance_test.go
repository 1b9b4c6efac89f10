package fold_test

import (
	"slices"
	"strings"
	"testing"

	"catapult/api"
	"catapult/fold"
	"catapult/tree"
)

// Expressions by chance: their numbers stand at the edges, so that they meet there often.

// chance is numbers that look as if they came by chance, and are always the same.
type chance uint32

func (c *chance) below(n int) int {
	*c = *c*1664525 + 1013904223
	return int(*c>>8) % n
}

// one is true once in so many times.
func (c *chance) one(in int) bool { return c.below(in) == 0 }

// of is one of its arguments.
func of[T any](c *chance, l ...T) T { return l[c.below(len(l))] }

// grower puts trees together by chance.
type grower struct {
	chance
	stray int  // one node in so many has not a constant's form
	plain bool // of the others there are only those that plain reckons with
}

// node is a node behind its parts, anywhere in the text.
func (g *grower) node(n api.Node, parts ...api.Tree) api.Tree {
	n.N, n.At = len(parts), g.below(api.MaxText+1)
	return append(slices.Concat(parts...), n)
}

// number is a number at an edge, or near nought.
func (g *grower) number() api.Tree {
	n := of(&g.chance, 0, 0, 1, 1, 2, 3, 5, 31, 32, 33, 127, 128, 200, 255, 256, 32767, 32768, 65535, 65536, 1<<31-1, 1<<31, 1<<31+1, 1<<32-1, -1, -56, -128)
	typed := of(&g.chance, api.Type("i"), "i", "u")
	switch {
	case n >= 1<<31:
		typed = "u"
	case n < 0:
		typed = "i"
	}
	return g.node(api.Node{Kind: api.NInt, Int: n, Type: typed})
}

// name is a name.
func (g *grower) name() api.Tree {
	return g.node(api.Node{Kind: api.NName, Text: of(&g.chance, "x", "y", "z")})
}

// leaf is a tree of one node.
func (g *grower) leaf() api.Tree {
	switch {
	case g.one(8):
		return g.node(api.Node{Kind: api.NSizeT, Type: of(&g.chance, api.Type("c"), "s", "i", "pc", "j", "a3:i", "St;", "a2:Sw;", "pSnone;", "a65536:c")})
	case g.stray > 0 && g.one(g.stray):
		if g.plain || g.one(2) {
			return g.name()
		}
		return g.node(of(&g.chance, api.Node{Kind: api.NString, Text: "a"}, api.Node{Kind: api.NSizeT, Type: "v"}, api.Node{Kind: api.NSizeT, Type: "Snone;"}, api.Node{Kind: api.NSizeT, Type: "f()i"}, api.Node{Kind: api.NSizeT, Type: "a9000:St;"}))
	}
	return g.number()
}

// tree is an expression at most so deep.
func (g *grower) tree(depth int) api.Tree {
	if depth <= 1 || g.one(10) {
		return g.leaf()
	}
	part := func() api.Tree { return g.tree(depth - 1) }
	switch {
	case g.stray > 0 && g.one(g.stray):
		if g.plain || g.one(3) {
			return g.plainStray(part)
		}
		return g.otherStray(part)
	case g.one(5):
		return g.node(api.Node{Kind: api.NUnary, Text: of(&g.chance, unaryMarks()...)}, part())
	case g.one(7):
		return g.node(api.Node{Kind: api.NCond}, part(), part(), part())
	case g.one(5):
		return g.node(api.Node{Kind: api.NCast, Type: of(&g.chance, integers()...)}, part())
	}
	return g.node(api.Node{Kind: api.NBinary, Text: of(&g.chance, binaryMarks()...)}, part(), part())
}

// plainStray is a node that is not of a constant's form, but that plain reckons with.
func (g *grower) plainStray(part func() api.Tree) api.Tree {
	switch g.below(3) {
	case 0:
		return g.node(api.Node{Kind: api.NComma}, part(), part())
	case 1:
		return g.node(api.Node{Kind: api.NAssign, Text: "="}, g.name(), part())
	}
	return g.node(api.Node{Kind: api.NSizeof}, part())
}

// otherStray is another node that is not of a constant's form.
func (g *grower) otherStray(part func() api.Tree) api.Tree {
	one := []api.Node{
		{Kind: api.NUnary, Text: "&"}, {Kind: api.NUnary, Text: "*"}, {Kind: api.NPre, Text: "++"}, {Kind: api.NPost, Text: "--"}, {Kind: api.NCall}, {Kind: api.NDot, Text: "a"}, {Kind: api.NArrow, Text: "a"},
		{Kind: api.NCast, Type: "v"}, {Kind: api.NCast, Type: "pc"}, {Kind: api.NCast, Type: "St;"}, {Kind: api.NCast, Type: "a2:i"}, {Kind: api.NSizeof},
	}
	two := []api.Node{{Kind: api.NIndex}, {Kind: api.NAssign, Text: "+="}, {Kind: api.NAssign, Text: "="}, {Kind: api.NCall}, {Kind: api.NComma}}
	if g.one(2) {
		return g.node(of(&g.chance, one...), part())
	}
	return g.node(of(&g.chance, two...), part(), part())
}

// grown is a tree by chance: of constants alone, or with others among them, seldom or often.
func grown(seed int) api.Tree {
	g := &grower{chance: chance(seed*7919 + 13), stray: []int{0, 40, 12, 5}[seed%4]}
	return g.tree(2 + g.below(6))
}

// 12.1, 12.3: trees by chance, against the plain ones.
func TestTreesAgainstThePlainOnes(t *testing.T) {
	constant, byNought, changed, stayed := 0, 0, 0, 0
	for seed := range 20000 {
		x := grown(seed)
		same(t, all(x), tree.Check(x), api.OK)
		n, typed, e := fold.Eval(x, structs())
		want, wantTyped, wantE := plainEval(x, structs())
		same(t, all(x), all(n, typed, e, fold.Is(x, structs())), all(want, wantTyped, wantE, wantE == api.OK))
		y, e2 := fold.Fold(x, structs())
		same(t, all(x), all(y, e2), all(plainFold(x, structs()), api.OK))
		switch {
		case e == api.OK:
			constant++
		case seed%4 == 0:
			byNought++
		}
		if e != api.OK && len(y) < len(x) {
			changed++
		}
		if e == api.OK && len(y) > 2 {
			stayed++
		}
	}
	if constant < 8000 || byNought < 300 || changed < 5000 || stayed < 80 {
		t.Errorf("%d constants, %d divided by nought, %d others folded, %d constants that are no number", constant, byNought, changed, stayed)
	}
}

// 12.1, 12.3: all trees of a few nodes of some kinds, against the plain ones.
func TestSmallTreesAgainstThePlainOnes(t *testing.T) {
	var leaves, ones, all3 []api.Tree
	for _, n := range []api.Node{
		{Kind: api.NInt, Type: "i"}, {Kind: api.NInt, Int: 1, Type: "i"}, {Kind: api.NInt, Int: 1, Type: "u"}, {Kind: api.NInt, Int: 1<<31 - 1, Type: "i"},
		{Kind: api.NInt, Int: 1<<32 - 1, Type: "u"}, {Kind: api.NInt, Int: -1, Type: "i"}, {Kind: api.NName, Text: "x"}, {Kind: api.NSizeT, Type: "c"},
	} {
		leaves = append(leaves, api.Tree{n})
	}
	for _, n := range []api.Node{
		{Kind: api.NUnary, Text: "-"}, {Kind: api.NUnary, Text: "~"}, {Kind: api.NUnary, Text: "!"}, {Kind: api.NUnary, Text: "*"}, {Kind: api.NCast, Type: "c"}, {Kind: api.NCast, Type: "i"}, {Kind: api.NCast, Type: "u"}, {Kind: api.NCast, Type: "pv"}, {Kind: api.NSizeof},
	} {
		n.N = 1
		for _, x := range leaves {
			ones = append(ones, append(slices.Clone(x), n))
		}
	}
	parts := slices.Concat(leaves, ones)
	for _, a := range parts {
		for _, b := range leaves {
			for _, mark := range binaryMarks() {
				all3 = append(all3, slices.Concat(a, b, api.Tree{{Kind: api.NBinary, N: 2, Text: mark}}))
				all3 = append(all3, slices.Concat(b, a, api.Tree{{Kind: api.NBinary, N: 2, Text: mark}}))
			}
			for _, c := range leaves {
				all3 = append(all3, slices.Concat(b, a, c, api.Tree{{Kind: api.NCond, N: 3}}))
			}
		}
	}
	for _, x := range slices.Concat(leaves, ones, all3) {
		for i := range x {
			x[i].At = i + 1
		}
		n, typed, e := fold.Eval(x, nil)
		want, wantTyped, wantE := plainEval(x, nil)
		same(t, all(x), all(n, typed, e), all(want, wantTyped, wantE))
		y, e := fold.Fold(x, nil)
		same(t, all(x), all(y, e), all(plainFold(x, nil), api.OK))
	}
}

// meaning is what a tree comes to, with names set, and in which order these were asked for.
func meaning(x api.Tree, names map[string]int64) string {
	p := &plain{structs: structs(), names: names}
	whole, _ := nested(x)
	return all(p.number(whole), p.typeOf(whole), strings.Join(p.seen, " "))
}

// 12.4: what is folded means the same, whatever the names in it stand for; folded once more it is the same.
func TestFoldedMeansTheSame(t *testing.T) {
	named, changed := 0, 0
	for seed := range 10000 {
		g := &grower{chance: chance(seed*104729 + 5), stray: 3 + seed%9, plain: true}
		x := g.tree(2 + g.below(6))
		y, e := fold.Fold(x, structs())
		same(t, all(x), e, api.OK)
		again, e := fold.Fold(y, structs())
		same(t, all(y), all(again, e), all(y, api.OK))
		for range 4 {
			a, b, c := int64(g.below(3)-1), int64(g.below(300)), int64(of(&g.chance, 0, 1, -1, -1<<31, 1<<31-1))
			names := func() map[string]int64 { return map[string]int64{"x": a, "y": b, "z": c} }
			want := meaning(x, names())
			same(t, all(x, names()), meaning(y, names()), want)
			if strings.ContainsAny(want, "xyz") {
				named++
				if len(y) < len(x) {
					changed++
				}
			}
		}
	}
	if named < 5000 || changed < 2500 {
		t.Errorf("%d runs asked for names, %d of them of what was folded", named, changed)
	}
}
