package fold_test

import (
	"math"
	"strings"
	"testing"

	"catapult/api"
	"catapult/fold"
)

// binaryMarks and unaryMarks are the operations on numbers.
func binaryMarks() []string {
	return strings.Fields("* / % + - << >> < > <= >= == != & ^ | && ||")
}
func unaryMarks() []string { return strings.Fields("- ~ !") }

// integers are the integer types, others types and texts that are none of these.
func integers() []api.Type { return []api.Type{"c", "s", "i", "u"} }
func others() []api.Type {
	return []api.Type{"", "v", "j", "pi", "pc", "a2:i", "a1:c", "St;", "f()i", "f(i)u", "x", "C", "ii", "i ", " i", "int", "\x00"}
}

// 12.2: a number converted is that modulo 1 << 32 as its type has it, the lowest bits with the sign; whatever int it is.
func TestConvert(t *testing.T) {
	for _, x := range []struct {
		n          int
		c, s, i, u int
	}{
		{0, 0, 0, 0, 0},
		{1, 1, 1, 1, 1},
		{-1, -1, -1, -1, 4294967295},
		{127, 127, 127, 127, 127},
		{128, -128, 128, 128, 128},
		{-128, -128, -128, -128, 4294967168},
		{-129, 127, -129, -129, 4294967167},
		{255, -1, 255, 255, 255},
		{256, 0, 256, 256, 256},
		{32767, -1, 32767, 32767, 32767},
		{32768, 0, -32768, 32768, 32768},
		{-32768, 0, -32768, -32768, 4294934528},
		{-32769, -1, 32767, -32769, 4294934527},
		{65535, -1, -1, 65535, 65535},
		{65536, 0, 0, 65536, 65536},
		{1<<31 - 1, -1, -1, 2147483647, 2147483647},
		{1 << 31, 0, 0, -2147483648, 2147483648},
		{-1 << 31, 0, 0, -2147483648, 2147483648},
		{-1<<31 - 1, -1, -1, 2147483647, 2147483647},
		{1<<32 - 1, -1, -1, -1, 4294967295},
		{1 << 32, 0, 0, 0, 0},
		{1<<32 + 200, -56, 200, 200, 200},
		{-1<<32 - 5, -5, -5, -5, 4294967291},
		{math.MaxInt, -1, -1, -1, 4294967295},
		{math.MinInt, 0, 0, 0, 0},
		{math.MinInt + 40000, 64, -25536, 40000, 40000},
	} {
		for i, want := range []int{x.c, x.s, x.i, x.u} {
			got, e := fold.Convert(x.n, integers()[i])
			same(t, all(x.n, integers()[i]), all(got, e), all(want, api.OK))
		}
	}
	for _, x := range others() {
		got, e := fold.Convert(5, x)
		same(t, string(x), all(got, e), all(0, api.ErrShape))
	}
}

// 12.2: operations on numbers that are of their types, of others, and by nought.
func TestOperationsOnNumbers(t *testing.T) {
	for _, x := range []struct {
		mark  string
		a     int
		x     api.Type
		b     int
		y     api.Type
		want  int
		typed api.Type
	}{
		{"+", 1, "i", 2, "i", 3, "i"},
		{"+", 1, "c", 2, "c", 3, "i"},
		{"+", 200, "c", 0, "i", -56, "i"},
		{"+", 200, "c", 0, "u", 4294967240, "u"},
		{"+", math.MaxInt, "i", 1, "s", 0, "i"},
		{"-", 0, "i", 1, "u", 4294967295, "u"},
		{"*", 1 << 31, "i", 1, "i", -2147483648, "i"},
		{"*", -1, "u", -1, "u", 1, "u"},
		{"/", -1 << 31, "i", -1, "i", -2147483648, "i"},
		{"%", -1 << 31, "i", -1, "i", 0, "i"},
		{"/", -1, "i", 2, "u", 2147483647, "u"},
		{"%", -7, "c", 4, "s", -3, "i"},
		{"<<", 1, "c", 33, "u", 2, "i"},
		{"<<", 1, "u", -1, "c", 2147483648, "u"},
		{">>", 255, "c", 1, "u", -1, "i"},
		{">>", -1, "u", 28, "i", 15, "u"},
		{"<", -1, "i", 0, "u", 0, "i"},
		{"<", -1, "c", 0, "s", 1, "i"},
		{">", -1, "i", 0, "u", 1, "i"},
		{"<=", 1 << 32, "i", 0, "i", 1, "i"},
		{">=", 128, "c", 0, "c", 0, "i"},
		{"==", 65535, "s", -1, "u", 1, "i"},
		{"!=", 65535, "s", 65535, "i", 1, "i"},
		{"&", -1, "c", 256, "i", 256, "i"},
		{"^", -1, "c", -1, "u", 0, "u"},
		{"|", 0, "u", -1, "s", 4294967295, "u"},
		{"&&", 256, "c", 1, "i", 0, "i"},
		{"&&", 1, "c", 256, "c", 0, "i"},
		{"&&", 5, "u", -5, "i", 1, "i"},
		{"&&", 0, "u", 0, "u", 0, "i"},
		{"||", 256, "c", 65536, "s", 0, "i"},
		{"||", 0, "c", 1, "s", 1, "i"},
		{"||", 7, "u", 0, "u", 1, "i"},
	} {
		n, typed, e := fold.Binary(x.mark, x.a, x.x, x.b, x.y)
		same(t, all(x), all(n, typed, e), all(x.want, x.typed, api.OK))
	}
	for _, x := range []struct {
		mark  string
		a     int
		x     api.Type
		want  int
		typed api.Type
	}{
		{"-", 5, "i", -5, "i"},
		{"-", 5, "u", 4294967291, "u"},
		{"-", 128, "c", 128, "i"},
		{"-", 1 << 31, "i", -2147483648, "i"},
		{"-", 32769, "s", 32767, "i"},
		{"~", 0, "c", -1, "i"},
		{"~", 1 << 32, "u", 4294967295, "u"},
		{"~", 255, "c", 0, "i"},
		{"!", 256, "c", 1, "i"},
		{"!", 256, "s", 0, "i"},
		{"!", 1 << 32, "u", 1, "i"},
		{"!", -1, "u", 0, "i"},
	} {
		n, typed, e := fold.Unary(x.mark, x.a, x.x)
		same(t, all(x), all(n, typed, e), all(x.want, x.typed, api.OK))
	}
}

// 12.2: ErrForm of the mark, ErrShape of the types, ErrFold by nought: in this order.
func TestErrorsOfOperations(t *testing.T) {
	noBinary := []string{"", "~", "!", "=", "+=", ",", "?", "++", "--", "<<=", ">>=", "->", ".", "[", "(", "&&&", "+ ", " +", "<>", "**", "===", "and", "+-", "\x00"}
	noUnary := []string{"", "&", "*", "+", "++", "--", "/", "&&", "!!", "- ", " -", "--1", "sizeof", "not", "\x00"}
	for _, x := range append(integers(), others()...) {
		for _, mark := range noBinary {
			n, typed, e := fold.Binary(mark, 1, x, 0, "i")
			same(t, mark, all(n, typed == "", e), all(0, true, api.ErrForm))
		}
		for _, mark := range noUnary {
			n, typed, e := fold.Unary(mark, 1, x)
			same(t, mark, all(n, typed == "", e), all(0, true, api.ErrForm))
		}
	}
	for _, x := range others() {
		for _, mark := range binaryMarks() {
			for _, types := range [][2]api.Type{{x, "i"}, {"u", x}, {x, x}} {
				n, typed, e := fold.Binary(mark, 1, types[0], 0, types[1])
				same(t, all(mark, types), all(n, typed == "", e), all(0, true, api.ErrShape))
			}
		}
		for _, mark := range unaryMarks() {
			n, typed, e := fold.Unary(mark, 1, x)
			same(t, all(mark, x), all(n, typed == "", e), all(0, true, api.ErrShape))
		}
	}
	noughts := []struct {
		b int
		y api.Type
	}{{0, "i"}, {0, "u"}, {0, "c"}, {256, "c"}, {65536, "s"}, {1 << 32, "i"}, {-1 << 32, "u"}, {math.MinInt, "i"}}
	for _, x := range integers() {
		for _, nought := range noughts {
			for _, mark := range binaryMarks() {
				n, typed, e := fold.Binary(mark, 5, x, nought.b, nought.y)
				if mark == "/" || mark == "%" {
					same(t, all(mark, x, nought), all(n, typed == "", e), all(0, true, api.ErrFold))
				} else {
					same(t, all(mark, x, nought), e, api.OK)
				}
			}
		}
	}
}
