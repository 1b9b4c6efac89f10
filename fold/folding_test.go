package fold_test

import (
	"strings"
	"testing"

	"catapult/api"
	"catapult/fold"
)

// 12.3: constants as a whole are numbers, of their type.
func TestConstantsFolded(t *testing.T) {
	folds(t, `
		5 => 5
		5u => 5u
		4294967295 => 4294967295
		1 + 2 => 3
		2 * 3 + 4 => 10
		1u + 2 => 3u
		0u - 1 => 4294967295
		1 - 1 => 0
		-0 => 0
		-5 => -5
		- -5 => 5
		~0 => -1
		~0u => 4294967295
		!5 => 0
		2 - 5 => -3
		0 - 2147483647 => -2147483647
		2147483647 + 2 => -2147483647
		-5u => 4294967291
		1 < 2u => 1
		1 ? 2 : 3u => 2u
		1 ? 2 : 3 / 0 => 2
		0 && 1 / 0 => 0
		1 || 1 / 0 => 1
		(int)5 => 5
		(int)4294967295 => -1
		(unsigned)5 => 5u
		(unsigned)-1 => 4294967295
		(int)(char)200 => -56
		(char)200 + 0 => -56
		sizeof(int) => 4u
		sizeof(struct w) => 108u
		sizeof(int) / 4 - 1 => 0u
	`)
}

// 12.3: the least int, constants of char and short, and what is divided by nought, stay, but for what stands within.
func TestConstantsThatStay(t *testing.T) {
	folds(t, `
		-2147483647 - 1 => -2147483647 - 1
		-(2147483640 + 7) - (3 - 2) => -2147483647 - 1
		~(2147483640 + 7) => ~2147483647
		1 << (30 + 1) => 1 << 31
		(int)(2147483640 + 8u) => (int)2147483648
		1 ? (-2147483647 - 1) : 1 + 1 => 1 ? -2147483647 - 1 : 2
		1 ? (1 << 31) : 1 / (2 - 2) => 1 ? 1 << 31 : 1 / 0
		-2147483647 - 1 + 1 => -2147483647
		(-2147483647 - 1) / (2 - 1) => (-2147483647 - 1) / 1
		(char)200 => (char)200
		(char)(100 + 100) => (char)200
		(short)(2 - 5) => (short)-3
		(char)(short)(1 + 1) => (char)(short)2
		(short)((char)1 + 1) => (short)2
		(char)(-2147483647 - 1) => (char)(-2147483647 - 1)
		(char)(0 ? 1 / 0 : 1 + 1) => (char)2
		(1 + 1) / 0 => 2 / 0
		(2 * 3) / (2 - 2) => 6 / 0
		(1 + 1) % (0 && 1) => 2 % 0
		1 && (1 + 1) / 0 => 1 && 2 / 0
		1 ? (1 + 1) / 0 : 2 + 2 => 1 ? 2 / 0 : 4
		-(1 / (1 - 1)) => -(1 / 0)
		(char)(1 / (1 - 1)) => (char)(1 / 0)
		sizeof(struct none) + (1 + 1) => sizeof(struct none) + 2
		sizeof(void) => sizeof(void)
	`)
}

// 12.3: within what is not constant each greatest constant part is a number.
func TestPartsFolded(t *testing.T) {
	folds(t, `
		x => x
		"a" => "a"
		x + (1 + 2) => x + 3
		x + 1 + 2 => x + 1 + 2
		1 + 2 + x => 3 + x
		x * (2 - 5) => x * -3
		-(x + (1 + 1)) => -(x + 2)
		&a[1 + 1] => &a[2]
		*(p + 2 * 4) => *(p + 8)
		(1 + 1)[a] => 2[a]
		a[1 + 1][2 + 2] => a[2][4]
		x++ + (1 + 1) => x++ + 2
		--a[1 + 1] => --a[2]
		a[1 + 1]-- => a[2]--
		x = 1 + 1 => x = 2
		a[1 + 1] = 2 + 2 => a[2] = 4
		x <<= 1 + 1 => x <<= 2
		(1 + 1, 2 + 2) => (2, 4)
		1 + 1, 2 + 2, x => 2, 4, x
		f(1 + 1, x, 2 - 3, 4) => f(2, x, -1, 4)
		g(1 + 1)(2 + 2) => g(2)(4)
		a[2 - 1].b => a[1].b
		p[2 - 1]->b => p[1]->b
		x ? 1 + 1 : 2 + 2 => x ? 2 : 4
		1 + 1 ? x : y => 2 ? x : y
		1 ? x : 2 + 2 => 1 ? x : 4
		1 && x => 1 && x
		x && 1 + 1 => x && 2
		x && (0 && 1 / 0) => x && 0
		0 && (x, 1 + 1) => 0 && (x, 2)
		(void)(1 + 1) => (void)2
		(char *)(1 + 1) => (char *)2
		(void *)(1 - 1) => (void *)0
		(struct t *)(a + (1 + 1)) => (struct t *)(a + 2)
		(char)x + (char)1 => (char)x + (char)1
		(char)(x + (1 + 1)) => (char)(x + 2)
		f((char)(1 + 1), (char)1 + 1) => f((char)2, 2)
		f(sizeof(int), sizeof(struct none)) => f(4u, sizeof(struct none))
		f(1 / 0, 1 / 0 + (1 + 1)) => f(1 / 0, 1 / 0 + 2)
		f(-2147483647 - 1, 1 << 31, -2147483647) => f(-2147483647 - 1, 1 << 31, -2147483647)
	`)
}

// 12.3: the operands of sizeof are not looked at.
func TestSizeofNotLookedAt(t *testing.T) {
	folds(t, `
		sizeof(1 + 2) => sizeof(1 + 2)
		sizeof(a[1 + 2]) => sizeof(a[1 + 2])
		sizeof sizeof(1 + 2) => sizeof sizeof(1 + 2)
		sizeof sizeof(int) => sizeof sizeof(int)
		sizeof(1 + 2) + (1 + 2) => sizeof(1 + 2) + 3
		1 + 2 + sizeof(1 + 2) => 3 + sizeof(1 + 2)
		f(1 + 1, sizeof f(2 - 5, 3 + 3), 2 + 2) => f(2, sizeof f(2 - 5, 3 + 3), 4)
		-sizeof(-5) => -sizeof(-5)
		a[1 + 1] + sizeof((char)(1 + 2)) * (2 + 3) => a[2] + sizeof((char)(1 + 2)) * 5
	`)
	// Nor are the places in them touched.
	x := api.Tree{
		{Kind: api.NInt, At: 9, Int: 1, Type: "i"}, {Kind: api.NUnary, N: 1, At: 7, Text: "-"}, {Kind: api.NSizeof, N: 1, At: 5},
		{Kind: api.NInt, At: 4, Int: 1, Type: "i"}, {Kind: api.NUnary, N: 1, At: 3, Text: "-"}, {Kind: api.NBinary, N: 2, At: 1, Text: "+"},
	}
	y, e := fold.Fold(x, nil)
	x[3].At = 3
	same(t, "sizeof -1 + -1", all(y, e), all(x, api.OK))
}

// 12.3: a number stands at the place of the part that it is for, also the number behind a unary -; all else where it stood.
func TestPlacesOfNumbers(t *testing.T) {
	number := func(at, n int, typed api.Type) api.Node { return api.Node{Kind: api.NInt, At: at, Int: n, Type: typed} }
	minus := func(at int) api.Node { return api.Node{Kind: api.NUnary, N: 1, At: at, Text: "-"} }
	plus := func(at int) api.Node { return api.Node{Kind: api.NBinary, N: 2, At: at, Text: "+"} }
	x := api.Node{Kind: api.NName, At: 60, Text: "x"}
	for _, c := range []struct{ x, want api.Tree }{
		{api.Tree{number(3, 7, "i")}, api.Tree{number(3, 7, "i")}},
		{api.Tree{number(3, -56, "i")}, api.Tree{number(3, -56, "i")}},
		{api.Tree{number(3, 7, "i"), minus(9)}, api.Tree{number(9, 7, "i"), minus(9)}},
		{api.Tree{number(3, 7, "u"), minus(9)}, api.Tree{number(9, 4294967289, "u")}},
		{api.Tree{number(3, -56, "i"), minus(9)}, api.Tree{number(9, 56, "i")}},
		{api.Tree{number(3, 1, "i"), number(4, 2, "i"), plus(5)}, api.Tree{number(5, 3, "i")}},
		{api.Tree{number(3, 1, "i"), number(4, -2, "i"), plus(5)}, api.Tree{number(5, 1, "i"), minus(5)}},
		{api.Tree{number(3, 1, "u"), number(4, 2, "i"), plus(5)}, api.Tree{number(5, 3, "u")}},
		{api.Tree{number(3, 1, "i"), number(4, 2, "i"), plus(5), x, plus(7)}, api.Tree{number(5, 3, "i"), x, plus(7)}},
		{api.Tree{x, number(3, 1, "i"), number(4, -2, "i"), plus(5), plus(7)}, api.Tree{x, number(5, 1, "i"), minus(5), plus(7)}},
		{
			api.Tree{number(3, 1, "i"), number(4, 2, "i"), plus(5), {Kind: api.NCast, N: 1, At: 8, Type: "c"}},
			api.Tree{number(5, 3, "i"), {Kind: api.NCast, N: 1, At: 8, Type: "c"}},
		},
		{api.Tree{{Kind: api.NSizeT, At: 11, Type: "a3:i"}}, api.Tree{number(11, 12, "u")}},
		{api.Tree{number(65536, 1, "i"), number(0, 2, "i"), plus(65536)}, api.Tree{number(65536, 3, "i")}},
	} {
		y, e := fold.Fold(c.x, nil)
		same(t, all(c.x), all(y, e), all(c.want, api.OK))
	}
}

// 12.3: a tree of the greatest length and depth is folded, too.
func TestGreatTreesFolded(t *testing.T) {
	s := strings.Repeat("-(", api.MaxNest-2) + "1 + 2" + strings.Repeat(")", api.MaxNest-2)
	x := read(t, s)
	same(t, s, len(x), api.MaxNest+1)
	y, e := fold.Fold(x, nil)
	same(t, s, all(printed(t, y), e), all("3", api.OK))
	leaf, sum := api.Node{Kind: api.NInt, Int: 3, Type: "i"}, api.Node{Kind: api.NBinary, N: 2, Text: "-"}
	l := []api.Tree{}
	for range api.MaxNodes / 2 {
		l = append(l, api.Tree{leaf})
	}
	for len(l) > 1 {
		l = append(l[2:], append(append(append(api.Tree{}, l[0]...), l[1]...), sum))
	}
	same(t, "wide", len(l[0]), api.MaxNodes-1)
	y, e = fold.Fold(l[0], nil)
	same(t, "wide", all(y, e), all(api.Tree{{Kind: api.NInt, Type: "i"}}, api.OK))
	l[0][0] = api.Node{Kind: api.NName, Text: "x"}
	y, e = fold.Fold(l[0], nil)
	same(t, "wide", all(printed(t, y), e), all("x - 3"+strings.Repeat(" - 0", 10), api.OK))
}
