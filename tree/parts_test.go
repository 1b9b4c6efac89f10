package tree_test

import (
	"fmt"
	"slices"
	"testing"

	"catapult/api"
	"catapult/tree"
)

// walked is the places and depths of a tree, in a row.
func walked(t *testing.T, x api.Tree) string {
	t.Helper()
	each, e := tree.Walk(x)
	if e != api.OK {
		t.Fatalf("Walk of %.600v: %v", x, e)
	}
	s := ""
	for at, depth := range each {
		s += fmt.Sprint(at, ":", depth, " ")
	}
	return s
}

// walk is the places and depths of a whole, in a row.
func (x nested) walk(depth int) string {
	s := fmt.Sprint(x.at, ":", depth, " ")
	for _, part := range x.parts {
		s += part.walk(depth + 1)
	}
	return s
}

// find is the part that ends at a place.
func (x nested) find(at int) nested {
	for _, part := range x.parts {
		if at <= part.at {
			return part.find(at)
		}
	}
	return x
}

// 9.2: the calls of one tree, written out: f ( - a , 1 ) ? b : g ( ).
func TestTakenApart(t *testing.T) {
	x := node(api.NCond, "", node(api.NCall, "", name("f"), node(api.NUnary, "-", name("a")), number(1, "i")), name("b"), node(api.NCall, "", name("g")))
	for at, want := range []string{"[]", "[]", "[1]", "[]", "[0 2 3]", "[]", "[]", "[6]", "[4 5 7]"} {
		l, e := tree.Parts(x, at)
		same(t, fmt.Sprint("parts of ", at), all(l, e), all(want, api.OK))
	}
	for at, from := range []int{0, 1, 1, 3, 0, 5, 6, 6, 0} {
		part, e := tree.Sub(x, at)
		same(t, fmt.Sprint("the part at ", at), all(part, e), all(x[from:at+1], api.OK))
	}
	same(t, "walk", walked(t, x), "8:1 4:2 0:3 2:3 1:4 3:3 5:2 7:2 6:3 ")
	for _, row := range []struct {
		kinds []int
		want  int
	}{{nil, 9}, {[]int{api.NName}, 4}, {[]int{api.NCall}, 2}, {[]int{api.NCall, api.NName}, 6}, {[]int{api.NName, api.NName}, 4}, {[]int{api.NInt, api.NCond}, 2}, {[]int{api.NBlock}, 0}, {[]int{0, -1, 99}, 0}, {[]int{99, api.NUnary}, 1}} {
		n, e := tree.Count(x, row.kinds...)
		same(t, fmt.Sprint("count of ", row.kinds), all(n, e), all(row.want, api.OK))
	}
	one := name("a")
	part, e := tree.Sub(one, 0)
	l, e2 := tree.Parts(one, 0)
	same(t, "one node", all(part, e, l, e2, walked(t, one)), all(one, api.OK, "[]", api.OK, "0:1 "))
	none, e := tree.Count(empty(), []int{}...)
	same(t, "an empty list of kinds", all(none, e), all(1, api.OK))
}

// 9.2: places that there are none of, and trees that are not right.
func TestNoPart(t *testing.T) {
	x := node(api.NIf, "", name("a"), empty())
	for _, at := range []int{-1, 3, 4, 1 << 40, -1 << 63, 1<<63 - 1} {
		l, e := tree.Parts(x, at)
		part, e2 := tree.Sub(x, at)
		same(t, fmt.Sprint(at), all(l == nil, e, part == nil, e2), all(true, api.ErrRange, true, api.ErrRange))
	}
	for want, l := range map[api.Errno][]api.Tree{api.ErrTree: {nil, append(name("a"), name("b")...), name("1"), node(api.NBlock, "", name("a"))}, api.ErrLong: {chain(48), make(api.Tree, 4097)}} {
		for _, wrong := range l {
			for _, at := range []int{0, -1, len(wrong)} {
				parts, e := tree.Parts(wrong, at)
				part, e2 := tree.Sub(wrong, at)
				each, e3 := tree.Walk(wrong)
				n, e4 := tree.Count(wrong, api.NName)
				every, e5 := tree.Count(wrong)
				same(t, all(len(wrong), at), all(parts == nil, e, part == nil, e2, each == nil, e3, n, e4, every, e5), all(true, want, true, want, true, want, 0, want, 0, want))
			}
		}
	}
}

// 9.2, Walk: it may be left, at each place, and gone over again.
func TestLeaveWalk(t *testing.T) {
	c := chance(3)
	for range 50 {
		x := c.tree()
		each, e := tree.Walk(x)
		same(t, all(x), e, api.OK)
		var there []string
		for at, depth := range each {
			there = append(there, all(at, depth))
		}
		for n := range len(x) + 1 {
			var here []string
			for at, depth := range each {
				if len(here) == n {
					break
				}
				here = append(here, all(at, depth))
			}
			same(t, all(x), here, there[:n])
		}
		inner := 0
		for range each {
			for range each {
				inner++
			}
		}
		same(t, "within itself", inner, len(x)*len(x))
	}
}

// 9.2, 9.6: trees by chance, taken apart.
func TestTakenApartByChance(t *testing.T) {
	for seed := range 2000 {
		c := chance(seed*331 + 4)
		made := c.tree()
		x, _ := nest(made)
		same(t, all(made), walked(t, made), x.walk(1))
		for at := range made {
			found := x.find(at)
			var places []int
			for _, part := range found.parts {
				places = append(places, part.at)
			}
			l, e := tree.Parts(made, at)
			same(t, all(at, made), all(l, e), all(places, api.OK))
			part, e := tree.Sub(made, at)
			same(t, all(at, made), all(part, e), all(found.flat(), api.OK))
		}
		var kinds []int
		for range c.below(4) {
			kinds = append(kinds, of(&c, rows...).kind)
		}
		want := 0
		for _, n := range made {
			if len(kinds) == 0 || slices.Contains(kinds, n.Kind) {
				want++
			}
		}
		n, e := tree.Count(made, kinds...)
		same(t, all(made, kinds), all(n, e), all(want, api.OK))
	}
}

// 9.3: trees that are built.
func TestBuild(t *testing.T) {
	a := name("a")
	for _, row := range []struct {
		n     api.Node
		parts []api.Tree
	}{
		{api.Node{Kind: api.NName, Text: "x", At: 9}, nil}, {api.Node{Kind: api.NBinary, Text: "+", At: 1}, []api.Tree{a, chain(3)}}, {api.Node{Kind: api.NCall}, []api.Tree{a}}, {api.Node{Kind: api.NCall}, slices.Repeat([]api.Tree{a}, 9)},
		{api.Node{Kind: api.NBlock}, nil}, {api.Node{Kind: api.NBlock}, []api.Tree{empty(), least(api.NDecl), least(api.NFor)}}, {api.Node{Kind: api.NFor}, []api.Tree{nothing(), nothing(), nothing(), empty()}}, {api.Node{Kind: api.NNone}, nil}, {api.Node{Kind: api.NDecl, Int: 1, Text: "x", Type: "i"}, []api.Tree{chain(46)}},
		{api.Node{Kind: api.NBlock}, slices.Repeat([]api.Tree{empty()}, 4095)},
	} {
		for _, n := range []int{0, 1, 7, -1, 1 << 40} {
			row.n.N = n
			x, e := tree.Build(row.n, row.parts...)
			same(t, all(row.n), all(x, e), all(whole(row.n, row.parts...), api.OK))
		}
	}
}

// 9.3: what is told instead.
func TestNoBuild(t *testing.T) {
	a, wrong, deep := name("a"), append(name("a"), name("b")...), chain(48)
	plus := api.Node{Kind: api.NBinary, Text: "+"}
	for _, row := range []struct {
		n     api.Node
		parts []api.Tree
		want  api.Errno
	}{
		{plus, []api.Tree{a, wrong}, api.ErrTree}, {plus, []api.Tree{wrong, deep}, api.ErrTree}, {plus, []api.Tree{deep, wrong}, api.ErrLong}, {plus, []api.Tree{a, nil}, api.ErrTree}, {plus, []api.Tree{nil, deep}, api.ErrTree},
		{plus, []api.Tree{a}, api.ErrTree}, {plus, []api.Tree{a, a, a}, api.ErrTree}, {plus, []api.Tree{a, empty()}, api.ErrTree}, {plus, nil, api.ErrTree}, {plus, []api.Tree{a, chain(47)}, api.ErrLong}, {plus, []api.Tree{chain(46), chain(46)}, api.OK},
		{api.Node{}, nil, api.ErrTree}, {api.Node{Kind: api.NName}, nil, api.ErrTree}, {api.Node{Kind: api.NName, Text: "a", At: -1}, nil, api.ErrTree}, {api.Node{Kind: api.NCall}, nil, api.ErrTree}, {api.Node{Kind: api.NCall}, slices.Repeat([]api.Tree{a}, 10), api.ErrTree},
		{api.Node{Kind: api.NUnary, Text: "+"}, []api.Tree{chain(47)}, api.ErrTree},
		{api.Node{Kind: api.NIf}, []api.Tree{a, least(api.NIf), empty()}, api.ErrTree},
		{api.Node{Kind: api.NBlock}, slices.Repeat([]api.Tree{empty()}, 4096), api.ErrLong}, {api.Node{}, slices.Repeat([]api.Tree{empty()}, 4096), api.ErrLong}, {api.Node{Kind: api.NBlock}, append(slices.Repeat([]api.Tree{empty()}, 5000), wrong), api.ErrTree}, {api.Node{Kind: api.NBlock}, append(slices.Repeat([]api.Tree{empty()}, 5000), make(api.Tree, 4097), wrong), api.ErrLong},
	} {
		x, e := tree.Build(row.n, row.parts...)
		same(t, all(row.n, len(row.parts)), all(e, x == nil), all(row.want, row.want != api.OK))
	}
	most := whole(api.Node{Kind: api.NBlock}, slices.Repeat([]api.Tree{empty()}, 4095)...)
	x, e := tree.Build(api.Node{Kind: api.NBlock}, slices.Repeat([]api.Tree{most}, 1000)...)
	same(t, "many great parts", all(x, e), all("[]", api.ErrLong))
}
