package fold_test

import (
	"strings"
	"testing"

	"catapult/api"
	"catapult/fold"
	"catapult/types"
)

// 12.1: numbers, and the unary operations.
func TestUnaryOperations(t *testing.T) {
	values(t, `
		0 => 0 i
		2147483647 => 2147483647 i
		2147483648 => 2147483648 u
		4294967295 => 4294967295 u
		7u => 7 u
		'a' => 97 i
		'\xc8' => -56 i
		-5 => -5 i
		-0 => 0 i
		-2147483647 => -2147483647 i
		-2147483648 => 2147483648 u
		-2147483649 => 2147483647 u
		-5u => 4294967291 u
		-0u => 0 u
		-'\xc8' => 56 i
		- -5 => 5 i
		-(-2147483647 - 1) => -2147483648 i
		~0 => -1 i
		~5 => -6 i
		~0u => 4294967295 u
		~4294967295 => 0 u
		~'\xff' => 0 i
		!0 => 1 i
		!5 => 0 i
		!0u => 1 i
		!4294967295 => 0 i
		!-1 => 0 i
		-(char)5 => -5 i
		-(char)128 => 128 i
		~(short)5 => -6 i
		!(char)0 => 1 i
		!(char)256 => 1 i
		!(char)1 => 0 i
		-(unsigned)1 => 4294967295 u
		-!5u => 0 i
	`)
}

// 12.1: sums, differences, products, and what is told bit by bit, in the type in which both parts meet.
func TestArithmetic(t *testing.T) {
	values(t, `
		2147483647 + 1 => -2147483648 i
		-2147483647 - 2 => 2147483647 i
		2147483647u + 1 => 2147483648 u
		4294967295 + 1 => 0 u
		0 - 1u => 4294967295 u
		3u - 5 => 4294967294 u
		-1 + 0u => 4294967295 u
		65536 * 65536 => 0 i
		65536 * 32768 => -2147483648 i
		46341 * 46341 => -2147479015 i
		65536u * 65535 => 4294901760 u
		-3 * 5 => -15 i
		-3 * 5u => 4294967281 u
		(char)100 + (char)100 => 200 i
		(char)100 * (short)30000 => 3000000 i
		(char)-1 + 1u => 0 u
		(char)-1 - (char)-128 => 127 i
		12 & 10 => 8 i
		12 | 10 => 14 i
		12 ^ 10 => 6 i
		-1 & 255u => 255 u
		-1 | 0u => 4294967295 u
		-1 ^ 1 => -2 i
		(char)-1 ^ 0u => 4294967295 u
		(char)200 & 255 => 200 i
	`)
}

// 12.1: quotients and rests, of both kinds; none by nought.
func TestQuotients(t *testing.T) {
	values(t, `
		7 / 2 => 3 i
		-7 / 2 => -3 i
		7 / -2 => -3 i
		-7 / -2 => 3 i
		7 % 2 => 1 i
		-7 % 2 => -1 i
		7 % -2 => 1 i
		-7 % -2 => -1 i
		-7 / 2u => 2147483644 u
		-7 % 2u => 1 u
		7u / -2 => 0 u
		7u % -2 => 7 u
		4294967295 / 2 => 2147483647 u
		4294967295 % 10 => 5 u
		(-2147483647 - 1) / -1 => -2147483648 i
		(-2147483647 - 1) % -1 => 0 i
		(-2147483647 - 1) / 1 => -2147483648 i
		2147483648 / -1 => 0 u
		2147483648 % -1 => 2147483648 u
		(char)128 / (char)-1 => 128 i
		0 / 5 => 0 i
		1 / 0 => error 120
		1 % 0 => error 120
		0 / 0 => error 120
		0 % 0 => error 120
		1 / 0u => error 120
		1u % 0 => error 120
		1 / (3 - 3) => error 120
		1 / (char)256 => error 120
		1 % (short)65536 => error 120
		1 / (0 * 5u) => error 120
		1 / !7 => error 120
		-(1 / 0) => error 120
		~(1 % 0) => error 120
		!(1 / 0) => error 120
		1 + 1 / 0 => error 120
		1 / 0 + 1 => error 120
		1 / 0 * 0 => error 120
		(1 / 0) << 1 => error 120
		1 << (1 / 0) => error 120
		1 / 0 < 1 => error 120
		1 == 1 / 0 => error 120
		(char)(1 / 0) => error 120
		(unsigned)(1 % 0) => error 120
		0 / (1 / 0) => error 120
		(0 / 0) / 0 => error 120
	`)
}

// 12.1: shifts: the type is the left part's promoted, the count is told modulo 32.
func TestShifts(t *testing.T) {
	values(t, `
		1 << 0 => 1 i
		1 << 31 => -2147483648 i
		1 << 32 => 1 i
		1 << 33 => 2 i
		1 << -1 => -2147483648 i
		1u << 31 => 2147483648 u
		3u << 31 => 2147483648 u
		1 << 1u => 2 i
		1 << 4294967295 => -2147483648 i
		-8 >> 1 => -4 i
		-1 >> 31 => -1 i
		-8 >> 33 => -4 i
		-8 >> 1u => -4 i
		-1 >> -1 => -1 i
		4294967288 >> 1 => 2147483644 u
		4294967295 >> 31 => 1 u
		4294967295 >> 32 => 4294967295 u
		4294967288 >> (char)1 => 2147483644 u
		(char)-128 >> 1 => -64 i
		(char)-128 << 1 => -256 i
		(short)-1 >> 1u => -1 i
		(char)1 << (char)225 => 2 i
		2147483647 >> 30 => 1 i
	`)
}

// 12.1: comparisons, in the type in which both parts meet; they are of int.
func TestComparisons(t *testing.T) {
	values(t, `
		1 < 2 => 1 i
		2 < 1 => 0 i
		2 < 2 => 0 i
		1 > 2 => 0 i
		2 > 1 => 1 i
		2 > 2 => 0 i
		1 <= 2 => 1 i
		2 <= 1 => 0 i
		2 <= 2 => 1 i
		1 >= 2 => 0 i
		2 >= 1 => 1 i
		2 >= 2 => 1 i
		1 == 2 => 0 i
		2 == 2 => 1 i
		1 != 2 => 1 i
		2 != 2 => 0 i
		-1 < 0 => 1 i
		-1 < 0u => 0 i
		-1 > 0u => 1 i
		0u <= -1 => 1 i
		0u >= -1 => 0 i
		-1 == 4294967295 => 1 i
		-1 != 4294967295 => 0 i
		(char)-1 == 4294967295 => 1 i
		(char)-1 < 0u => 0 i
		(char)-1 < (short)0 => 1 i
		(char)200 == 200 => 0 i
		(short)65535 == -1 => 1 i
		-2147483647 - 1 < 2147483647 => 1 i
		2147483648 > 2147483647 => 1 i
	`)
}

// 12.1: && and || are of int, and look at the second part only if it is needed; it must be a tree of a constant's form all the same.
func TestDecisions(t *testing.T) {
	values(t, `
		0 && 0 => 0 i
		0 && 7 => 0 i
		7 && 0 => 0 i
		7 && 8 => 1 i
		0 || 0 => 0 i
		0 || 7 => 1 i
		7 || 0 => 1 i
		7 || 8 => 1 i
		2u && 4294967295 => 1 i
		0u || 0u => 0 i
		(char)256 || (short)65536 => 0 i
		0 && 1 / 0 => 0 i
		1 || 1 / 0 => 1 i
		1 && 1 / 0 => error 120
		0 || 1 / 0 => error 120
		1 / 0 && 0 => error 120
		1 / 0 || 1 => error 120
		0 && (1 / 0 || 1) => 0 i
		(0 && 1 / 0) + 3 => 3 i
		1 || 0 && 1 / 0 => 1 i
		0 && 1 / 0 || 1 % 0 => error 120
		-1 || 1 % 0u => 1 i
		0 && x => error 120
		1 || x => error 120
		x && 0 => error 120
		0 && f() => error 120
		0 && 1 / x => error 120
		0 && (1, 2) => error 120
		0 && sizeof x => error 120
		0 && sizeof(struct none) => error 120
		0 && (1 / 0, 0) => error 120
		0 && *0 => error 120
		0 && (char *)0 => error 120
	`)
}

// 12.1: NCond is of the common type of its last two parts, and looks only at the one that it picks.
func TestConditionals(t *testing.T) {
	values(t, `
		1 ? 2 : 3 => 2 i
		0 ? 2 : 3 => 3 i
		5u ? 2 : 3 => 2 i
		-1 ? 2 : 3 => 2 i
		(char)256 ? 2 : 3 => 3 i
		1 ? -1 : 0u => 4294967295 u
		0 ? 0u : -1 => 4294967295 u
		0 ? 1 : 2u => 2 u
		1u ? 1 : 2 => 1 i
		1 ? (char)200 : (char)1 => -56 i
		1 ? (char)200 : (short)1 => -56 i
		1 ? (char)200 : 1u => 4294967240 u
		1 ? 2 : 1 / 0 => 2 i
		0 ? 1 / 0 : 2 => 2 i
		0 ? 1 / 0u : -2 => 4294967294 u
		1 ? -2 : 1 % 0u => 4294967294 u
		1 ? -2 : !(1 / 0u) => -2 i
		1 ? -2 : (1 / 0u) << 1 => 4294967294 u
		1 ? -2 : 1 << (1 / 0u) => -2 i
		1 ? -2 : (char)(1 / 0u) => -2 i
		1 ? -2 : (unsigned)(1 / 0) => 4294967294 u
		1 ? -2 : (1 / 0 && 2u) => -2 i
		1 ? -2 : (1 / 0 < 2u) => -2 i
		1 ? -2 : (0 ? 1 / 0 : 2u) => 4294967294 u
		1 ? -2 : (1 / 0 ? 1 : 2u) => 4294967294 u
		1 ? -2 : -(1 / 0u) => 4294967294 u
		1 ? 1 / 0 : 2 => error 120
		0 ? 1 : 2 / 0 => error 120
		1 / 0 ? 1 : 2 => error 120
		1 / 0 ? 1 : 1 => error 120
		0 ? 1 / 0 : 1 ? 3 : 1 % 0 => 3 i
		(1 ? 2 : 1 / 0) / (0 ? 1 / 0 : 2) => 1 i
		1 ? 2 : x => error 120
		0 ? x : 2 => error 120
		x ? 1 : 2 => error 120
		1 ? 2 : f(1) => error 120
	`)
}

// 12.1: casts keep the lowest bits; sizes are unsigned.
func TestCastsAndSizes(t *testing.T) {
	values(t, `
		(char)127 => 127 c
		(char)128 => -128 c
		(char)255 => -1 c
		(char)256 => 0 c
		(char)-129 => 127 c
		(char)4294967295 => -1 c
		(short)32767 => 32767 s
		(short)32768 => -32768 s
		(short)65535 => -1 s
		(short)65536 => 0 s
		(short)-32769 => 32767 s
		(short)(char)200 => -56 s
		(char)(short)200 => -56 c
		(int)4294967295 => -1 i
		(int)2147483648 => -2147483648 i
		(int)(char)200 => -56 i
		(int)5 => 5 i
		(unsigned)-1 => 4294967295 u
		(unsigned)(char)200 => 4294967240 u
		(unsigned)5 => 5 u
		(char)(int)511 => -1 c
		sizeof(char) => 1 u
		sizeof(short) => 2 u
		sizeof(int) => 4 u
		sizeof(unsigned) => 4 u
		sizeof(char *) => 4 u
		sizeof(struct none *) => 4 u
		sizeof(int (*)(int)) => 4 u
		sizeof(void *) => 4 u
		sizeof(jmp_buf) => 64 u
		sizeof(char[65536]) => 65536 u
		sizeof(struct t) => 8 u
		sizeof(struct t[3]) => 24 u
		sizeof(struct w) => 108 u
		-sizeof(int) => 4294967292 u
		sizeof(int) - 5 => 4294967295 u
		sizeof(int) * 2 > -1 => 0 i
		sizeof(void) => error 120
		sizeof(struct none) => error 120
		sizeof(struct none[2]) => error 120
		sizeof(struct w[1000]) => error 120
		sizeof(struct t[8193]) => error 120
		sizeof(struct t[8192]) => 65536 u
		1 + sizeof(struct none) => error 120
		1 ? 1 : sizeof(struct none) => error 120
		(void)1 => error 120
		(char *)0 => error 120
		(int)(char *)0 => error 120
		(int (*)(int))0 => error 120
	`)
	f := api.Tree{{Kind: api.NSizeT, Type: "f(i)i"}}
	_, _, e := fold.Eval(f, structs())
	same(t, "the size of a function", all(e, fold.Is(f, structs())), all(api.ErrFold, false))
}

// 12.1: what is no constant expression, wherever it stands.
func TestNotConstant(t *testing.T) {
	for _, s := range []string{
		"x", `"a"`, "&x", "*x", "&1", "*1", "x++", "--x", "++1", "1--", "x = 1", "1 = 1", "x += 1", "(1, 2)", "f()", "f(1, 2)", "1(2)",
		"x[1]", "1[2]", "x.a", "1 .a", "x->a", "1->a", "(void)1", "(char *)1", "(struct t)1", "sizeof x", "sizeof 1", "sizeof(1 + 2)",
	} {
		for _, around := range []string{"@", "-(@)", "~(@)", "!(@)", "(char)(@)", "(@) + 1", "1 + (@)", "0 * (@)", "(@) << 1", "1 << (@)", "(@) == (@)", "0 && (@)", "1 || (@)", "(@) && 0", "(@) ? 1 : 2", "1 ? 2 : (@)", "0 ? (@) : 2", "-(1 ? 2 : 3 + (@))"} {
			same(t, s, value(t, strings.ReplaceAll(around, "@", s)), "error 120")
		}
	}
}

// 12.1: tree.Check's error, ErrShape, types.Structs' code, ErrFold: in this order, in Eval and Fold (but ErrFold).
func TestErrorsInOrder(t *testing.T) {
	number := api.Node{Kind: api.NInt, Int: 1, Type: "i"}
	bad := []api.Struct{{Name: "t", Members: []api.Member{{Name: "a", Type: "i"}}}, {Name: "t", Members: []api.Member{{Name: "a", Type: "i"}}}}
	holed := []api.Struct{{Name: "t"}}
	deep := api.Tree{number}
	for range api.MaxNest {
		deep = append(deep, api.Node{Kind: api.NUnary, N: 1, Text: "-"})
	}
	wrong := []struct {
		x    api.Tree
		want api.Errno
	}{
		{nil, api.ErrTree},
		{api.Tree{}, api.ErrTree},
		{api.Tree{number, number}, api.ErrTree},
		{api.Tree{{Kind: api.NUnary, N: 1, Text: "-"}}, api.ErrTree},
		{api.Tree{{Kind: api.NInt, Int: 1, Type: "c"}}, api.ErrTree},
		{api.Tree{{Kind: api.NInt, Int: 1 << 31, Type: "i"}}, api.ErrTree},
		{api.Tree{{Kind: api.NInt, Int: 1 << 32, Type: "u"}}, api.ErrTree},
		{api.Tree{number, {Kind: api.NCast, N: 1, Type: "x"}}, api.ErrTree},
		{api.Tree{number, {Kind: api.NUnary, N: 1, Text: "+"}}, api.ErrTree},
		{api.Tree{{Kind: api.NExpr, N: 1}}, api.ErrTree},
		{deep, api.ErrLong},
		{make(api.Tree, api.MaxNodes+1), api.ErrLong},
		{api.Tree{number, {Kind: api.NExpr, N: 1}}, api.ErrShape},
		{api.Tree{{Kind: api.NBlock}}, api.ErrShape},
		{api.Tree{{Kind: api.NDecl, Text: "a", Type: "i"}}, api.ErrShape},
		{api.Tree{number, {Kind: api.NReturn, N: 1}}, api.ErrShape},
		{api.Tree{number, {Kind: api.NBlock}, {Kind: api.NCase, N: 2}}, api.ErrShape},
	}
	for _, x := range wrong {
		for _, l := range [][]api.Struct{nil, structs(), bad, holed} {
			told(t, x.x, l, x.want, x.want)
		}
	}
	for _, l := range [][]api.Struct{bad, holed, make([]api.Struct, api.MaxFields+1)} {
		e := types.Structs(l).Code
		for _, s := range []string{"1", "x", "1 / 0", "sizeof(struct t)", "sizeof(int)"} {
			told(t, read(t, s), l, e, e)
		}
	}
	for _, s := range []string{"x", "1 / 0", "sizeof(struct none)", "f(1)"} {
		told(t, read(t, s), structs(), api.ErrFold, api.OK)
	}
	told(t, deep[:api.MaxNest], nil, api.OK, api.OK)
}

// told holds the errors of Eval, Is and Fold against those that must be; an error stands alone.
func told(t *testing.T, x api.Tree, l []api.Struct, ofEval, ofFold api.Errno) {
	t.Helper()
	n, typ, e := fold.Eval(x, l)
	same(t, all(x, l), all(e, fold.Is(x, l)), all(ofEval, ofEval == api.OK))
	if e != api.OK {
		same(t, all(x, l), all(n, typ == ""), all(0, true))
	}
	y, e := fold.Fold(x, l)
	same(t, all(x, l), all(e, y == nil), all(ofFold, ofFold != api.OK))
}
