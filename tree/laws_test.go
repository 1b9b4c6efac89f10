package tree_test

import (
	"fmt"
	"slices"
	"testing"

	"catapult/api"
	"catapult/tree"
)

// 9.5: trees are the same but for places: one thing changed in one node, whether the tree is right or not.
func TestSame(t *testing.T) {
	for seed := range 300 {
		c := chance(seed*4001 + 3)
		x := of(&c, c.tree(), c.wrong(c.tree()))
		same(t, all(x), all(tree.Same(x, x), tree.Same(x, unplaced(x)), tree.Same(c.placed(x), slices.Clone(x))), all(true, true, true))
		for at := range x {
			for i, change := range []func(*api.Node){
				func(n *api.Node) { n.At = -7 - n.At }, func(n *api.Node) { n.Kind++ }, func(n *api.Node) { n.N-- }, func(n *api.Node) { n.Int = ^n.Int }, func(n *api.Node) { n.Text += " " }, func(n *api.Node) { n.Type += "i" },
			} {
				y := slices.Clone(x)
				change(&y[at])
				same(t, all(i, x, y), all(tree.Same(x, y), tree.Same(y, x)), all(i == 0, i == 0))
			}
			same(t, all(x), all(tree.Same(x, x[:at]), tree.Same(x[:at], x), tree.Same(x, slices.Delete(slices.Clone(x), at, at+1))), all(false, false, false))
		}
	}
	same(t, "none", all(tree.Same(nil, nil), tree.Same(nil, api.Tree{}), tree.Same(nil, name("a")), tree.Same(name("a"), nil), tree.Same(name("a"), name("b"))), all(true, true, false, false, false))
}

// 9.6: a node built of its Subs is the tree that ends there; those are right by themselves, as are their parts.
func TestBuiltOfParts(t *testing.T) {
	for seed := range 1500 {
		c := chance(seed*1009 + 4)
		x := c.tree()
		for at, n := range x {
			places, e := tree.Parts(x, at)
			same(t, all(at, x), all(len(places), e), all(n.N, api.OK))
			var parts []api.Tree
			for _, place := range places {
				part, e := tree.Sub(x, place)
				same(t, all(at, x), all(tree.Check(part), e), all(api.OK, api.OK))
				parts = append(parts, part)
			}
			made, e := tree.Build(n, parts...)
			sub, e2 := tree.Sub(x, at)
			same(t, all(at, x), all(made, e), all(sub, e2))
			count, e := tree.Count(sub)
			same(t, all(at, x), all(count, e), all(len(sub), api.OK))
		}
	}
}

// 9.6: Walk tells each place once, each behind its whole, one deeper.
func TestWalkOnce(t *testing.T) {
	for seed := range 1500 {
		c := chance(seed*3001 + 5)
		x := c.tree()
		depths := make([]int, len(x))
		each, e := tree.Walk(x)
		same(t, all(x), e, api.OK)
		var ahead []int
		for at, depth := range each {
			if depths[at] != 0 || len(ahead) == 0 && (at != len(x)-1 || depth != 1) {
				t.Fatalf("%v: %d at depth %d behind %v", x, at, depth, ahead)
			}
			depths[at] = depth
			ahead = append(ahead, at)
		}
		same(t, all(x), all(len(ahead), slices.Max(depths) <= 48), all(len(x), true))
		for at := range x {
			last := -1
			parts, _ := tree.Parts(x, at)
			for _, part := range parts {
				here := slices.Index(ahead, part)
				if here < slices.Index(ahead, at) || here < last || depths[part] != depths[at]+1 {
					t.Fatalf("%v: %d of %d", x, part, at)
				}
				last = here
			}
		}
	}
}

// 9.7: what is printed hangs on no place.
func TestPrintWithoutPlaces(t *testing.T) {
	for seed := range 1000 {
		c := chance(seed*2503 + 6)
		x := c.expression(5)
		same(t, all(x), printed(t, c.placed(x)), printed(t, x))
		u := c.unit()
		s := lines(t, u)
		for i := range u.Globals {
			u.Globals[i].At = c.place()
			for j, x := range u.Globals[i].Init {
				u.Globals[i].Init[j] = c.placed(x)
			}
		}
		for i := range u.Funcs {
			u.Funcs[i].At, u.Funcs[i].Body = c.place(), c.placed(u.Funcs[i].Body)
		}
		same(t, s, lines(t, u), s)
	}
}

// roomy is a list with room behind it, which is written out, too.
func roomy[T any](l []T, behind ...T) []T {
	to := append(append(make([]T, 0, len(l)+3), l...), behind...)
	return to[:len(l)]
}

// R4: what is handed in is not written to, nor what stands behind it; what is answered may be written over, and what was handed in, too.
func TestOwnMemory(t *testing.T) {
	for seed := range 200 {
		c := chance(seed*5003 + 7)
		a, b := c.tree(), c.tree()
		mark := api.Node{Kind: 99, Text: "behind"}
		x, parts := roomy(a, mark, mark, mark), roomy([]api.Tree{roomy(c.block(3), mark), roomy(empty(), mark)}, b, b)
		kinds := roomy([]int{api.NName, api.NInt}, 5, 6)
		looked := func() string {
			return all(x[:cap(x)], parts[:cap(parts)], parts[0][:cap(parts[0])], parts[1][:cap(parts[1])], kinds[:cap(kinds)])
		}
		before := looked()
		at := c.below(len(x))
		places, _ := tree.Parts(x, at)
		sub, _ := tree.Sub(x, at)
		each, _ := tree.Walk(x)
		made, e := tree.Build(api.Node{Kind: api.NBlock}, parts...)
		n, _ := tree.Count(x, kinds...)
		tree.Check(x)
		tree.Same(x, x)
		tree.PrintExpr(x)
		for range each {
		}
		same(t, "handed in", all(looked(), e, n >= 0), all(before, api.OK, true))
		was := all(places, sub, made)
		ahead := walked(t, a)
		again, _ := tree.Sub(x, at)
		list, _ := tree.Parts(x, at)
		kept := all(list, again)
		wipe := func(x api.Tree) {
			for i := range x[:cap(x)] {
				x[:cap(x)][i] = api.Node{Kind: -1, N: 77}
			}
		}
		wipe(x)
		wipe(parts[0])
		wipe(parts[1])
		clear(kinds)
		same(t, "answers", all(places, sub, made), was)
		here := ""
		for at, depth := range each {
			here += fmt.Sprint(at, ":", depth, " ")
		}
		same(t, "walked later", here, ahead)
		wipe(sub)
		wipe(made)
		clear(places[:cap(places)])
		same(t, "other answers", all(list, again), kept)
	}
}

// R4: a unit that is handed in is not written to.
func TestUnitsStay(t *testing.T) {
	for seed := range 200 {
		c := chance(seed*5003 + 8)
		u := c.unit()
		u.Structs, u.Globals, u.Funcs = roomy(u.Structs, api.Struct{}), roomy(u.Globals, api.Global{}), roomy(u.Funcs, api.Func{})
		for i := range u.Funcs {
			u.Funcs[i].Body = roomy(u.Funcs[i].Body, api.Node{Kind: 99})
		}
		before := all(u, u.Structs[:cap(u.Structs)], u.Globals[:cap(u.Globals)], u.Funcs[:cap(u.Funcs)])
		tree.CheckUnit(u)
		tree.Print(u)
		same(t, "a unit", all(u, u.Structs[:cap(u.Structs)], u.Globals[:cap(u.Globals)], u.Funcs[:cap(u.Funcs)]), before)
	}
}

// P1, R1, R3, R5: every call answers, whatever it is handed, the same in any order, and an error alone.
func TestAnswersHangOnArgumentsAlone(t *testing.T) {
	const calls = 1500
	ask := func(seed int) string {
		c := chance(seed*7 + 9)
		x, y := of(&c, c.tree(), c.wrong(c.tree())), c.wrong(c.tree())
		at := c.below(len(x)+3) - 1
		places, e1 := tree.Parts(x, at)
		sub, e2 := tree.Sub(x, at)
		each, e3 := tree.Walk(x)
		n, e4 := tree.Count(x, c.below(40))
		made, e5 := tree.Build(of(&c, api.Node{Kind: api.NBlock}, api.Node{Kind: api.NComma}), of(&c, []api.Tree{x, y}, []api.Tree{x, x})...)
		s, e6 := tree.PrintExpr(x)
		u := c.unit()
		if c.below(2) == 0 {
			u = c.spoiled(u)
		}
		text, f := tree.Print(u)
		for i, r := range []struct {
			e    api.Errno
			none bool
		}{{e1, places == nil}, {e2, sub == nil}, {e3, each == nil}, {e4, n == 0}, {e5, made == nil}, {e6, s == ""}, {f.Code, text == ""}} {
			if r.e != api.OK && !r.none {
				t.Fatalf("call %d: an answer beside %v", i, r.e)
			}
		}
		if each != nil {
			s += walked(t, x)
		}
		return all(tree.Check(x), tree.CheckUnit(u), places, e1, sub, e2, e3, n, e4, made, e5, s, e6, text, f, tree.Same(x, y))
	}
	var there []string
	for seed := range calls {
		there = append(there, ask(seed))
	}
	for seed := calls - 1; seed >= 0; seed-- {
		if again := ask(seed); again != there[seed] {
			t.Fatalf("call %d: %.400s, was %.400s", seed, again, there[seed])
		}
	}
}

// P1: nodes of any numbers and texts, and very many of all.
func TestEveryCallAnswers(t *testing.T) {
	ints := []int{-1 << 63, -1 << 31, -129, -1, 0, 1, 2, 3, 4, 1 << 31, 1 << 32, 1<<63 - 1}
	for seed := range 5000 {
		c := chance(seed*11 + 10)
		var x api.Tree
		for range 1 + c.below(8) {
			x = append(x, api.Node{Kind: of(&c, of(&c, rows...).kind, of(&c, ints...)), N: of(&c, 0, 0, 1, 1, 2, of(&c, ints...)), At: of(&c, 0, 0, of(&c, ints...)), Int: of(&c, 0, 0, 0, of(&c, ints...)), Text: of(&c, "", "", "a", "-", "="), Type: api.Type(of(&c, "", "", "i", "\xff", "f("))})
		}
		e := tree.Check(x)
		_, e2 := tree.Walk(x)
		_, e3 := tree.Count(x, ints...)
		s, e4 := tree.PrintExpr(x)
		places, e5 := tree.Parts(x, of(&c, ints...))
		f := tree.CheckUnit(api.Unit{Funcs: []api.Func{{Name: "f", Type: "f()v", Body: x}}})
		if e != plainCheckShort(x) || e2 != e || e3 != e || (e4 != e || s != "") && e != api.OK || e != api.OK && (e5 != e || len(places) > 0 || f.Code != e) {
			t.Fatalf("%v: %v %v %v %q %v %v %v", x, e, e2, e3, s, e4, e5, f)
		}
	}
	same(t, "very many", all(tree.Check(make(api.Tree, 1<<22)), tree.CheckUnit(api.Unit{Structs: make([]api.Struct, 1<<20)}), tree.Same(make(api.Tree, 1<<20), make(api.Tree, 1<<20))), all(api.ErrLong, api.Fault{Code: api.ErrLong}, true))
	n, e := tree.Count(name("a"), make([]int, 1<<22)...)
	made, e2 := tree.Build(api.Node{Kind: api.NBlock}, make([]api.Tree, 1<<20)...)
	same(t, "very many", all(n, e, made, e2), all(0, api.OK, "[]", api.ErrTree))
	made, e = tree.Build(api.Node{Kind: api.NBlock}, slices.Repeat([]api.Tree{empty()}, 1<<20)...)
	same(t, "very many parts", all(made, e), all("[]", api.ErrLong))
}
