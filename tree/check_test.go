package tree_test

import (
	"fmt"
	"slices"
	"strings"
	"testing"

	"catapult/api"
	"catapult/tree"
)

// 9.1, Check: the least tree of each kind is right, and is so by itself.
func TestEachKind(t *testing.T) {
	for _, r := range rows {
		x := least(r.kind)
		same(t, all(x), all(tree.Check(x), plainCheck(x)), all(api.OK, api.OK))
		same(t, all(x), x[len(x)-1].Kind, r.kind)
	}
	for _, kind := range []int{-1, 0, 18, 19, 34, 35, 40, 49, 1 << 40, -1 << 40} {
		same(t, "no kind", tree.Check(api.Tree{{Kind: kind}}), api.ErrTree)
		same(t, "no kind", tree.Check(api.Tree{{Kind: api.NName, Text: "a"}, {Kind: kind, N: 1}}), api.ErrTree)
		same(t, "no kind", tree.Check(node(api.NBlock, "", api.Tree{{Kind: kind}})), api.ErrTree)
	}
}

// 9.1: trees that are not well formed.
func TestNotWellFormed(t *testing.T) {
	a, minus := name("a")[0], api.Node{Kind: api.NUnary, N: 1, Text: "-"}
	plus := api.Node{Kind: api.NBinary, N: 2, Text: "+"}
	block := func(n int) api.Node { return api.Node{Kind: api.NBlock, N: n} }
	for _, x := range []api.Tree{nil, {}, {minus}, {plus}, {a, plus}, {a, a}, {a, a, minus}, {a, minus, a}, {a, a, a, plus}, {minus, a}, {a, plus, a}, {a, minus, plus}, {block(0), block(0)}, {block(1)}, {block(2)}, {block(0), block(2)}, {block(0), block(0), block(1)}, {block(-1)}, {block(0), block(-1)}, {block(1 << 62)}, {block(-1 << 63)}, {block(1<<63 - 1)}} {
		same(t, all(x), all(tree.Check(x), plainCheckShort(x)), all(api.ErrTree, api.ErrTree))
	}
	for _, x := range []api.Tree{{a}, {a, minus}, {a, a, plus}, {a, minus, a, plus}, {a, a, minus, plus}, {a, a, plus, minus}, {block(0)}, {block(0), block(1)}, {block(0), block(0), block(2)}, {block(0), block(0), block(1), block(2)}} {
		same(t, all(x), all(tree.Check(x), plainCheckShort(x)), all(api.OK, api.OK))
	}
}

// plainCheckShort is what Check tells of a tree of few nodes, some of which may say that they have no end of parts.
func plainCheckShort(x api.Tree) api.Errno {
	for _, n := range x {
		if n.N > len(x) {
			return api.ErrTree
		}
	}
	return plainCheck(x)
}

// 9.1: how many parts a node of each kind has; those of a call are 1 to 9, those of a block any number.
func TestNumbersOfParts(t *testing.T) {
	for _, r := range rows {
		got := ""
		for n := range 13 {
			right := false
			for _, word := range []string{strings.Repeat("e", n), strings.Repeat("s", n), "e" + strings.Repeat("s", max(n, 1)-1), strings.Repeat("s", max(n, 1)-1) + "e", strings.Repeat("n", max(n, 1)-1) + "s"} {
				if len(word) != n {
					continue
				}
				x := whole(least(r.kind)[len(least(r.kind))-1], partsOf(word)...)
				same(t, all(x), tree.Check(x), plainCheck(x))
				right = right || tree.Check(x) == api.OK
			}
			if right {
				got += fmt.Sprintf("%x", n)
			}
		}
		want := map[int]string{
			api.NInt: "0", api.NString: "0", api.NName: "0", api.NUnary: "1", api.NPre: "1", api.NPost: "1", api.NBinary: "2", api.NAssign: "2", api.NCond: "3", api.NComma: "2", api.NCall: "123456789", api.NIndex: "2", api.NDot: "1", api.NArrow: "1", api.NCast: "1", api.NSizeof: "1", api.NSizeT: "0",
			api.NExpr: "1", api.NBlock: "0123456789abc", api.NDecl: "01", api.NIf: "23", api.NWhile: "2", api.NDo: "2", api.NFor: "4", api.NSwitch: "2", api.NCase: "2", api.NDefault: "1", api.NBreak: "0", api.NCont: "0", api.NReturn: "01", api.NNone: "0",
		}
		same(t, fmt.Sprint("parts of kind ", r.kind), got, want[r.kind])
	}
	for _, n := range []int{0, 1, 2, 100, 4095} {
		same(t, "a block", tree.Check(whole(api.Node{Kind: api.NBlock}, slices.Repeat([]api.Tree{empty()}, n)...)), api.OK)
	}
}

// 9.1: which kinds may stand as each part of each kind.
func TestWhichParts(t *testing.T) {
	for _, r := range rows {
		x, ok := nest(least(r.kind))
		if !ok {
			t.Fatal(r.kind)
		}
		counts := []int{len(x.parts)}
		switch r.kind {
		case api.NBlock:
			counts = []int{1, 2, 3}
		case api.NCall:
			counts = []int{1, 2, 9}
		case api.NDecl, api.NReturn:
			counts = []int{1}
		case api.NIf:
			counts = []int{2, 3}
		}
		for _, n := range counts {
			var parts []api.Tree
			for i := range n {
				switch {
				case i < len(x.parts):
					parts = append(parts, x.parts[i].flat())
				case r.kind == api.NBlock || r.kind == api.NIf:
					parts = append(parts, empty())
				default:
					parts = append(parts, name("a"))
				}
			}
			for i := range n {
				for _, with := range rows {
					l := slices.Clone(parts)
					l[i] = least(with.kind)
					made := whole(x.Node, l...)
					same(t, all(made), tree.Check(made), plainCheck(made))
				}
			}
		}
	}
}

// 9.1: some parts that fit, and some that do not, written out.
func TestParts(t *testing.T) {
	a, e, d, n := name("a"), node(api.NExpr, "", name("a")), least(api.NDecl), nothing()
	loop := func(parts ...api.Tree) api.Tree { return node(api.NFor, "", parts...) }
	for _, x := range []api.Tree{
		loop(n, n, n, e), loop(e, n, n, e), loop(d, n, n, e), loop(n, a, n, e), loop(n, n, a, e), loop(d, a, a, empty()),
		node(api.NIf, "", a, e), node(api.NIf, "", a, e, e), node(api.NDo, "", e, a), node(api.NBlock, "", d, e, d), node(api.NSwitch, "", a, e), node(api.NCase, "", a, e), node(api.NDefault, "", e),
		node(api.NCase, "", node(api.NComma, "", a, a), e), node(api.NCond, "", a, a, a), n, d, e,
	} {
		same(t, all(x), tree.Check(x), api.OK)
	}
	for _, x := range []api.Tree{
		loop(a, n, n, e), loop(empty(), n, n, e), loop(e, e, n, e), loop(e, n, e, e), loop(n, n, n, d), loop(n, n, n, n), loop(n, n, n, a), loop(n, d, n, e), loop(n, n, n), loop(n, n, n, e, e),
		node(api.NIf, "", a, d), node(api.NIf, "", a, e, d), node(api.NIf, "", a, d, e), node(api.NIf, "", e, e), node(api.NIf, "", n, e), node(api.NIf, "", a, n), node(api.NIf, "", a, e, n), node(api.NIf, "", a), node(api.NIf, "", a, e, e, e),
		node(api.NDo, "", a, e), node(api.NDo, "", d, a), node(api.NDo, "", n, a), node(api.NDo, "", e, n), node(api.NWhile, "", e, a), node(api.NWhile, "", a, d), node(api.NWhile, "", n, e),
		node(api.NSwitch, "", a, d), node(api.NSwitch, "", e, a), node(api.NCase, "", a, d), node(api.NCase, "", e, e), node(api.NDefault, "", d), node(api.NDefault, "", a), node(api.NDefault, "", n),
		node(api.NBlock, "", a), node(api.NBlock, "", n), node(api.NBlock, "", e, n, e), node(api.NExpr, "", e), node(api.NExpr, "", n), node(api.NReturn, "", n), node(api.NReturn, "", e),
		whole(d[0], n), whole(d[0], e), node(api.NUnary, "-", n), node(api.NUnary, "-", e), node(api.NCall, "", a, n), node(api.NCond, "", a, n, a), typed(api.NCast, "i", n), node(api.NSizeof, "", d),
	} {
		same(t, all(x), tree.Check(x), api.ErrTree)
	}
}

// 9.1: open ifs, and where they may not stand; the chapter's second example.
func TestOpenIfs(t *testing.T) {
	a, e := name("a"), node(api.NExpr, "", name("b"))
	short := node(api.NIf, "", a, e)
	long := func(then, other api.Tree) api.Tree { return node(api.NIf, "", a, then, other) }
	opens := []api.Tree{short, node(api.NIf, "", a, short), long(e, short), long(e, long(e, short)), node(api.NIf, "", a, long(e, e))}
	for _, x := range opens {
		opens = append(opens, node(api.NWhile, "", a, x), node(api.NFor, "", nothing(), nothing(), nothing(), x), node(api.NSwitch, "", a, x), node(api.NCase, "", a, x), node(api.NDefault, "", x))
	}
	opens = append(opens, node(api.NWhile, "", a, node(api.NFor, "", nothing(), a, a, node(api.NCase, "", a, long(e, node(api.NDefault, "", short))))))
	for _, x := range opens {
		same(t, all(x), tree.Check(x), api.OK)
		same(t, all(x), tree.Check(long(x, e)), api.ErrTree)
		same(t, all(x), tree.Check(node(api.NBlock, "", long(x, e))), api.ErrTree)
		same(t, all(x), tree.Check(long(e, x)), api.OK)
		for _, shut := range []api.Tree{node(api.NBlock, "", x), node(api.NDo, "", x, a), node(api.NBlock, "", e, x)} {
			same(t, all(shut), tree.Check(long(shut, e)), api.OK)
			same(t, all(shut), tree.Check(long(node(api.NWhile, "", a, shut), e)), api.OK)
		}
	}
	for _, x := range []api.Tree{e, empty(), long(e, e), long(long(e, e), e), long(e, long(e, e)), node(api.NWhile, "", a, e), node(api.NWhile, "", a, long(e, e)), node(api.NFor, "", nothing(), nothing(), nothing(), long(e, e)), node(api.NDefault, "", long(e, e)), node(api.NDo, "", short, a), node(api.NReturn, "")} {
		same(t, all(x), tree.Check(long(x, e)), api.OK)
		same(t, all(x), tree.Check(long(x, short)), api.OK)
	}
}

// withLast is the least tree of a kind with its last node changed.
func withLast(kind int, change func(*api.Node)) api.Tree {
	x := least(kind)
	change(&x[len(x)-1])
	return x
}

// 9.1: the numbers that nodes may have.
func TestNodeNumbers(t *testing.T) {
	for _, r := range rows {
		for _, n := range []int{-1 << 63, -129, -128, -127, -1, 0, 1, 2, 127, 128, 1<<31 - 1, 1 << 31, 1<<32 - 1, 1 << 32, 1<<63 - 1} {
			for _, code := range []api.Type{"", "i", "u", "c", "s", "v", "pi"} {
				x := withLast(r.kind, func(l *api.Node) { l.Int, l.Type = n, code })
				same(t, all(x), tree.Check(x), plainCheck(x))
			}
			x := withLast(r.kind, func(l *api.Node) { l.Int = n })
			right := n == 0
			switch r.kind {
			case api.NInt:
				right = n >= -128 && n < 1<<31
			case api.NDecl:
				right = n == 0 || n == 1
			}
			same(t, all(x), tree.Check(x) == api.OK, right)
		}
	}
	for n, want := range map[int]string{-129: "", -128: "i", -1: "i", 0: "iu", 1<<31 - 1: "iu", 1 << 31: "u", 1<<32 - 1: "u", 1 << 32: ""} {
		got := ""
		for _, code := range []string{"c", "s", "i", "u", "v", "j", "pi", "Si;", "", "I", "ii"} {
			if tree.Check(number(n, code)) == api.OK {
				got += code
			}
		}
		same(t, fmt.Sprint("types of ", n), got, want)
	}
}

// 9.1: the texts that nodes may have: each mark of each kind, names, keywords, and others.
func TestNodeTexts(t *testing.T) {
	texts := []string{"", "a", "_", "Z9_z", "int_", "9", "9a", "a b", " a", "a ", "é", "a\x00", "\xff", "->", ".", "?", ",", "(", "sizeof", strings.Repeat("n", 31), strings.Repeat("n", 32), strings.Repeat("s", 4096), strings.Repeat("s", 4097), "* /", "- ", "+++", "<<<", "=>"}
	texts = append(texts, strings.Fields(plainKeys)...)
	for _, r := range rows {
		texts = append(texts, strings.Fields(r.marks)...)
	}
	for _, r := range rows {
		right := map[string]int{}
		for _, s := range texts {
			x := withLast(r.kind, func(l *api.Node) { l.Text = s })
			if same(t, all(x), tree.Check(x), plainCheck(x)); tree.Check(x) == api.OK {
				right[s] = 1
			}
		}
		want := 1
		switch r.kind {
		case api.NName, api.NDot, api.NArrow, api.NDecl:
			want = 5
		case api.NString:
			for _, s := range texts {
				right[s] = 1
			}
			want = len(right) - 1
			delete(right, strings.Repeat("s", 4097))
		case api.NUnary, api.NPre, api.NPost, api.NBinary, api.NAssign:
			want = len(marksOf(r.kind))
		}
		same(t, fmt.Sprint("kind ", r.kind), len(right), want)
	}
}

// 9.1: the types that nodes may have.
func TestNodeTypes(t *testing.T) {
	deep := strings.Repeat("p", 47)
	for code, want := range map[string]string{
		"": "", "i": "dct", "u": "dct", "c": "dct", "j": "dct", "pv": "dct", "pf()v": "dct", "a3:i": "dct", "Sx;": "dct", "a2:Sx;": "dct", "pSx;": "dct", "a65536:c": "dct", "pa2:Sx;": "dct", deep + "i": "dct", deep + "Sx;": "dct",
		"v": "ct", "f()v": "ct", "f(i,pc)pi": "ct", "f(pSx;)v": "ct",
		"x": "", "p": "", "S x;": "", "S;": "", "a0:i": "", "a2:v": "", "a65537:c": "", "a32769:s": "", "f(v)v": "", "f(Sx;)v": "", "f()Sx;": "", deep + "pi": "", "ii": "", "i ": "", "a0:Sx;": "", "a65537:Sx;": "",
	} {
		got := ""
		for _, k := range []struct {
			kind   int
			letter string
		}{{api.NDecl, "d"}, {api.NCast, "c"}, {api.NSizeT, "t"}} {
			x := withLast(k.kind, func(l *api.Node) { l.Type = api.Type(code) })
			if same(t, all(x), tree.Check(x), plainCheck(x)); tree.Check(x) == api.OK {
				got += k.letter
			}
		}
		same(t, "kinds of "+code, got, want)
		for _, r := range rows {
			if r.kind == api.NDecl || r.kind == api.NCast || r.kind == api.NSizeT || r.kind == api.NInt || code == "" {
				continue
			}
			x := withLast(r.kind, func(l *api.Node) { l.Type = api.Type(code) })
			same(t, all(x), tree.Check(x), api.ErrTree)
		}
	}
}

// 9.1: the places that nodes may have.
func TestNodePlaces(t *testing.T) {
	for _, r := range rows {
		for at, want := range map[int]api.Errno{-1 << 63: api.ErrTree, -1: api.ErrTree, 0: api.OK, 1: api.OK, 65535: api.OK, 65536: api.OK, 65537: api.ErrTree, 1<<63 - 1: api.ErrTree} {
			same(t, fmt.Sprint("kind ", r.kind, " at ", at), tree.Check(withLast(r.kind, func(l *api.Node) { l.At = at })), want)
			same(t, fmt.Sprint("within kind ", r.kind, " at ", at), tree.Check(node(api.NBlock, "", least(api.NWhile), api.Tree{{Kind: api.NBlock, At: at}})), want)
		}
	}
}

// 9.1: a node that is wrong is found wherever it stands.
func TestWrongAnywhere(t *testing.T) {
	c := chance(9)
	for range 20 {
		x := c.placed(c.block(4))
		for at := range x {
			for _, change := range []func(*api.Node){func(n *api.Node) { n.At = -1 }, func(n *api.Node) { n.Type += "," }, func(n *api.Node) { n.Int = 1 << 40 }, func(n *api.Node) { n.Kind = 0 }, func(n *api.Node) { n.N += 100 }} {
				y := slices.Clone(x)
				change(&y[at])
				same(t, all(y), tree.Check(y), api.ErrTree)
			}
		}
	}
}

// chain is a name behind so many signs.
func chain(n int) api.Tree {
	x := name("a")
	for range n {
		x = append(x, api.Node{Kind: api.NUnary, N: 1, Text: "-"})
	}
	return x
}

// 9.1: a tree is at most 48 deep, whatever it is made of.
func TestDepth(t *testing.T) {
	for n, want := range map[int]api.Errno{0: api.OK, 46: api.OK, 47: api.OK, 48: api.ErrLong, 49: api.ErrLong, 4095: api.ErrLong} {
		same(t, fmt.Sprint(n, " signs"), tree.Check(chain(n)), want)
	}
	for n, want := range map[int]api.Errno{46: api.OK, 47: api.ErrLong} {
		x := chain(n)
		for _, y := range []api.Tree{node(api.NBinary, "+", x, name("a")), node(api.NBinary, "+", name("a"), x), node(api.NCond, "", name("a"), x, name("a")), node(api.NExpr, "", x), node(api.NReturn, "", x), node(api.NCall, "", name("a"), name("a"), x, name("a"))} {
			same(t, all(y), tree.Check(y), want)
		}
	}
	blocks, ifs := empty(), node(api.NReturn, "")
	for n := range 60 {
		want := api.OK
		if n > 47 {
			want = api.ErrLong
		}
		same(t, "blocks", all(tree.Check(blocks), tree.Check(ifs)), all(want, want))
		blocks, ifs = node(api.NBlock, "", blocks), node(api.NIf, "", name("a"), ifs)
	}
}

// 9.1: a tree has at most 4096 nodes; too many is told ahead of what is wrong, and that ahead of too deep.
func TestLength(t *testing.T) {
	most := whole(api.Node{Kind: api.NBlock}, slices.Repeat([]api.Tree{empty()}, 4095)...)
	more := whole(api.Node{Kind: api.NBlock}, slices.Repeat([]api.Tree{empty()}, 4096)...)
	same(t, "length", all(len(most), tree.Check(most), tree.Check(more)), all(4096, api.OK, api.ErrLong))
	same(t, "no tree", all(tree.Check(make(api.Tree, 4096)), tree.Check(make(api.Tree, 4097)), tree.Check(make(api.Tree, 1<<20))), all(api.ErrTree, api.ErrLong, api.ErrLong))
	wrong := chain(60)
	wrong[0].Text = "1"
	same(t, "wrong and deep", tree.Check(wrong), api.ErrTree)
	wrong = chain(60)
	wrong[60].Text = "+"
	same(t, "deep and wrong", tree.Check(wrong), api.ErrTree)
	same(t, "deep, and two", tree.Check(append(chain(60), name("a")...)), api.ErrTree)
	same(t, "deep, and does not fit", tree.Check(node(api.NBlock, "", node(api.NExpr, "", chain(60)), name("a"))), api.ErrTree)
	deep := node(api.NExpr, "", chain(60))
	open := node(api.NIf, "", name("a"), node(api.NIf, "", name("a"), deep), deep)
	same(t, "deep, and an open if", tree.Check(open), api.ErrTree)
	same(t, "deep, long and wrong", tree.Check(append(wrong, make(api.Tree, 4096)...)), api.ErrLong)
}

// 9.1: a string of a tree that is too long makes it no tree.
func TestLongString(t *testing.T) {
	same(t, "strings", all(tree.Check(node(api.NString, strings.Repeat("\xff", 4096))), tree.Check(node(api.NString, strings.Repeat("\xff", 4097)))), all(api.OK, api.ErrTree))
}

// 9.1: trees by chance, right ones and such as are not.
func TestCheckByChance(t *testing.T) {
	told := map[api.Errno]int{}
	for seed := range 10000 {
		c := chance(seed*769 + 1)
		x := c.tree()
		same(t, all(x), tree.Check(x), api.OK)
		x = c.wrong(x)
		e := tree.Check(x)
		told[e]++
		same(t, all(x), e, plainCheckShort(x))
	}
	if told[api.OK] < 1000 || told[api.ErrTree] < 2500 {
		t.Errorf("%v", told)
	}
}
