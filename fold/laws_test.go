package fold_test

import (
	"slices"
	"strings"
	"testing"

	"catapult/api"
	"catapult/fold"
	"catapult/tree"
	"catapult/word"
)

// depth is how deep a tree is.
func depth(t *testing.T, x api.Tree) int {
	t.Helper()
	places, e := tree.Walk(x)
	same(t, all(x), e, api.OK)
	deepest := 0
	for _, d := range places {
		deepest = max(deepest, d)
	}
	return deepest
}

// 12.4: what is folded is a right tree, folded once more it is the same; it is no longer and no deeper.
func TestFoldedOnceMore(t *testing.T) {
	for seed := range 8000 {
		x := grown(seed)
		y, e := fold.Fold(x, structs())
		same(t, all(x), all(e, tree.Check(y)), all(api.OK, api.OK))
		again, e := fold.Fold(y, structs())
		same(t, all(y), all(again, e), all(y, api.OK))
		if len(y) > len(x) || depth(t, y) > depth(t, x) {
			t.Fatalf("%v is folded to %v", x, y)
		}
	}
}

// joined is a node behind its parts.
func joined(t *testing.T, n api.Node, parts ...api.Tree) api.Tree {
	t.Helper()
	x, e := tree.Build(n, parts...)
	same(t, all(n, parts), e, api.OK)
	return x
}

// 12.5: sums and products of constants turn about (and what else does); a constant and what Eval says of its fold are the same.
func TestSumsTurnAbout(t *testing.T) {
	constants := 0
	for seed := range 2000 {
		x, z := grown(seed), grown(seed+100000)
		n, typed, e := fold.Eval(x, structs())
		y, _ := fold.Fold(x, structs())
		n2, typed2, e2 := fold.Eval(y, structs())
		same(t, all(x, y), all(n2, typed2, e2), all(n, typed, e))
		if len(x)+len(z) >= api.MaxNodes {
			continue
		}
		m, typed2, e2 := fold.Eval(z, structs())
		for _, mark := range []string{"+", "*", "&", "^", "|", "==", "!="} {
			op := api.Node{Kind: api.NBinary, Text: mark}
			n, typed, e := fold.Eval(joined(t, op, x, z), structs())
			n2, typed2, e2 := fold.Eval(joined(t, op, z, x), structs())
			same(t, all(mark, x, z), all(n, typed, e), all(n2, typed2, e2))
		}
		if e == api.OK && e2 == api.OK {
			constants++
			hold(t, x, z, n, typed, m, typed2)
		}
	}
	if constants < 400 {
		t.Errorf("%d pairs of constants", constants)
	}
}

// hold holds operations on trees against those on what the trees come to.
func hold(t *testing.T, x, z api.Tree, a int, typed api.Type, b int, typed2 api.Type) {
	t.Helper()
	for _, mark := range binaryMarks() {
		n, typed3, e := fold.Binary(mark, a, typed, b, typed2)
		n2, typed4, e2 := fold.Eval(joined(t, api.Node{Kind: api.NBinary, Text: mark}, x, z), structs())
		same(t, all(mark, x, z), all(n2, typed4, e2), all(n, typed3, e))
		n3, typed5, e3 := fold.Binary(mark, b, typed2, a, typed)
		if strings.Contains("+*&^|==!=&&||", mark) {
			same(t, all(mark, x, z), all(n3, typed5, e3), all(n, typed3, e))
		}
	}
	for _, mark := range unaryMarks() {
		n, typed3, e := fold.Unary(mark, a, typed)
		n2, typed4, e2 := fold.Eval(joined(t, api.Node{Kind: api.NUnary, Text: mark}, x), structs())
		same(t, all(mark, x), all(n2, typed4, e2), all(n, typed3, e))
	}
	for _, to := range integers() {
		n, e := fold.Convert(a, to)
		n2, typed3, e2 := fold.Eval(joined(t, api.Node{Kind: api.NCast, Type: to}, x), structs())
		same(t, all(to, x), all(n2, typed3, e2), all(n, to, e))
	}
}

// 12.6: Convert, done twice, is as done once; within i and u it keeps the word; a smaller type keeps what fits.
func TestConvertTwice(t *testing.T) {
	c := chance(1)
	for range 20000 {
		n := c.below(1<<24)<<c.below(40) - c.below(1<<24)<<c.below(20)
		for _, x := range integers() {
			once, e := fold.Convert(n, x)
			twice, e2 := fold.Convert(once, x)
			same(t, all(n, x), all(twice, e2), all(once, e))
			for _, y := range []api.Type{"i", "u"} {
				wide, e := fold.Convert(n, y)
				same(t, all(n, y), all(word.Of(wide), e), all(word.Of(n), api.OK))
				through, e := fold.Convert(wide, x)
				same(t, all(n, x, y), all(through, e), all(once, api.OK))
			}
			if word.Fits(n, 8) && (x != "u" || n >= 0) {
				same(t, all(n, x), once, n)
			}
		}
	}
}

// everyCall is what all calls tell of a tree, and of numbers.
func everyCall(x api.Tree, l []api.Struct) string {
	n, typed, e := fold.Eval(x, l)
	y, e2 := fold.Fold(x, l)
	return all(n, typed, e, fold.Is(x, l), y, e2)
}

// R4: what is handed in is not written to, and may be written over later; what is answered is new memory.
func TestOwnMemory(t *testing.T) {
	for seed := range 2000 {
		x, l := grown(seed), structs()
		room := append(slices.Clone(x), x[0], x[0])[:len(x)]
		before, beforeStructs := all(room[:cap(room)]), all(l)
		y, _ := fold.Fold(room, l)
		other, _ := fold.Fold(room, l)
		was := all(y)
		same(t, all(x), all(all(room[:cap(room)]), all(l)), all(before, beforeStructs))
		clear(room[:cap(room)])
		clear(l)
		same(t, all(x), all(y), was)
		clear(y[:cap(y)])
		same(t, all(x), all(other), was)
		again, e := fold.Fold(x, structs())
		same(t, all(x), all(again, e), all(other, api.OK))
	}
}

// R5: the same in any order of calls; places change nothing but places.
func TestAnswersHangOnArgumentsAlone(t *testing.T) {
	var there []string
	for seed := range 1500 {
		there = append(there, everyCall(grown(seed), structs()))
	}
	for seed := 1499; seed >= 0; seed-- {
		x := grown(seed)
		same(t, all(x), everyCall(x, structs()), there[seed])
		moved := slices.Clone(x)
		for i := range moved {
			moved[i].At = (i * 31) % 1000
		}
		y, _ := fold.Fold(x, structs())
		z, _ := fold.Fold(moved, structs())
		same(t, all(x), tree.Same(y, z), true)
		n, typed, e := fold.Eval(x, structs())
		n2, typed2, e2 := fold.Eval(moved, structs())
		same(t, all(x), all(n2, typed2, e2), all(n, typed, e))
	}
}

// spoiled is a tree with something in it that may be wrong.
func (c *chance) spoiled(x api.Tree) api.Tree {
	ints := []int{-1 << 63, -129, -1, 0, 1, 2, 3, 4, 7, 9, 15, 16, 17, 20, 22, 33, 1 << 31, 1 << 32, 1<<63 - 1}
	for range 1 + c.below(2) {
		n := &x[c.below(len(x))]
		switch c.below(3) {
		case 0:
			*of(c, &n.Kind, &n.N, &n.Int, &n.At) = of(c, ints...)
		case 1:
			n.Text = of(c, "", "+", "-", "&", "&&", "=", "a", "++", "é")
		default:
			n.Type = of(c, api.Type(""), "c", "i", "u", "v", "pi", "St;", "Snone;", "f()i", "x", "a0:i", "a2:v")
		}
	}
	return x
}

// P1, R1, R3: every call answers, whatever it is handed; an error stands alone.
func TestEveryCallAnswers(t *testing.T) {
	wrong := 0
	for seed := range 8000 {
		c := chance(seed*31 + 7)
		x := c.spoiled(grown(seed))
		if e := tree.Check(x); e != api.OK {
			wrong++
			told(t, x, structs(), e, e)
			continue
		}
		if x[len(x)-1].Kind > api.NSizeT {
			told(t, x, structs(), api.ErrShape, api.ErrShape)
			continue
		}
		n, typed, e := fold.Eval(x, structs())
		want, wantTyped, wantE := plainEval(x, structs())
		same(t, all(x), all(n, typed, e), all(want, wantTyped, wantE))
		y, e := fold.Fold(x, structs())
		same(t, all(x), all(y, e), all(plainFold(x, structs()), api.OK))
	}
	if wrong < 3000 || wrong > 7500 {
		t.Errorf("%d of 8000 trees are not right", wrong)
	}
	number := api.Tree{{Kind: api.NInt, Type: "i"}}
	same(t, "no structs", everyCall(number, nil), everyCall(number, []api.Struct{}))
	long := api.Type(strings.Repeat("p", api.MaxText) + "i")
	for _, mark := range []string{"", strings.Repeat("-", api.MaxText+1)} {
		n, typed, e := fold.Unary(mark, 1, long)
		same(t, "long", all(n, typed == "", e), all(0, true, api.ErrForm))
	}
	n, e := fold.Convert(1, long)
	same(t, "long", all(n, e), all(0, api.ErrShape))
	n, typed, e := fold.Binary("+", 1, "i", 1, long)
	same(t, "long", all(n, typed == "", e), all(0, true, api.ErrShape))
}
