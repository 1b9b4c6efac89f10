package asm_test

import (
	"fmt"
	"math"
	"strings"
	"testing"

	"catapult/api"
	"catapult/asm"
	"catapult/emu"
	"catapult/isa"
)

// 5.3: texts that are symbols.
func TestSymbols(t *testing.T) {
	for _, s := range strings.Fields("a z A Z _ . $ a0 f.main f.main$3 _start .L0 $9 ab_C.d$e0 text data global align word byte space .Text .texts .tex .words .bytes " +
		"r R1 r1x rx r1. r_1 rr1 addd ad Add ADD .add add. add0 lis l LA las .la consta consts .const higher .high lows x.low RET ret nop sw1 traps g.x s.0 b.putchar") {
		same(t, s, asm.IsSymbol(s), true)
	}
	for _, first := range []string{"x", "_", ".", "$", "Z"} {
		same(t, "63 bytes", asm.IsSymbol(first+strings.Repeat("0", 62)), true)
		same(t, "64 bytes", asm.IsSymbol(first+strings.Repeat("0", 63)), false)
		same(t, "very many bytes", asm.IsSymbol(first+strings.Repeat("0", 1<<20)), false)
	}
	same(t, "r and digits, 63 bytes", asm.IsSymbol("r"+strings.Repeat("0", 62)), false)
	same(t, "r, digits and a letter, 63 bytes", asm.IsSymbol("r"+strings.Repeat("0", 61)+"a"), true)
}

// 5.3: texts that are none.
func TestNoSymbols(t *testing.T) {
	for _, s := range strings.Fields(noSymbols) {
		same(t, s, asm.IsSymbol(s), false)
		same(t, "a letter more than "+s, asm.IsSymbol(s+"z"), true)
		same(t, "great letters of "+s, asm.IsSymbol(strings.ToUpper(s)), true)
	}
	same(t, "so many words", len(strings.Fields(noSymbols)), 7+4+42)
	for n := range 100 {
		same(t, "a register", asm.IsSymbol(fmt.Sprint("r", n)), false)
		same(t, "digits", asm.IsSymbol(fmt.Sprint(n)), false)
		same(t, "digits ahead", asm.IsSymbol(fmt.Sprint(n, "a")), false)
	}
	for _, s := range []string{"", " ", "a ", " a", "a b", "a:", "a+1", "a-b", "-a", "a,", "a;", "a\n", "a\x00", "\x00", "ä", "aä", "a\xff", "\xff", "a٣", "r00", "r007", "r4294967296", "@a", "a@", "[a", "a[", "`a", "a`", "{a", "a{", "/a", "a/", "a#", "%a", "a%", "!a", "a\t", "ａ"} {
		same(t, s, asm.IsSymbol(s), false)
	}
}

// 5.3: of each byte whether it may begin a symbol, and stand in one.
func TestBytesOfSymbols(t *testing.T) {
	for b := range 256 {
		s := string([]byte{byte(b)})
		same(t, fmt.Sprint("byte ", b), asm.IsSymbol(s), plainSymbol(s))
		for _, more := range []string{s + "x", "x" + s, "x" + s + "x", "r" + s, "r1" + s} {
			same(t, fmt.Sprint("with byte ", b), asm.IsSymbol(more), plainSymbol(more))
		}
	}
	letters := "rlaid0159._$ "
	for i := range len(letters) * len(letters) * len(letters) {
		s := string([]byte{letters[i%len(letters)], letters[i/len(letters)%len(letters)], letters[i/len(letters)/len(letters)]})
		same(t, s, asm.IsSymbol(s), plainSymbol(s))
	}
}

// 5.3: the instructions of const, written out.
func TestConst(t *testing.T) {
	for _, x := range []struct {
		d, n int
		want string
	}{
		{0, 0, "li r0 0"}, {15, 1, "li r15 1"}, {1, -1, "li r1 -1"}, {2, 32767, "li r2 32767"}, {3, -32768, "li r3 -32768"},
		{4, 32768, "lui r4 0|ori r4 r4 32768"}, {5, -32769, "lui r5 65535|ori r5 r5 32767"}, {6, 65535, "lui r6 0|ori r6 r6 65535"}, {7, 65536, "lui r7 1"},
		{8, 65537, "lui r8 1|ori r8 r8 1"}, {9, -65536, "lui r9 65535"}, {10, -65537, "lui r10 65534|ori r10 r10 65535"}, {11, 0x12345678, "lui r11 4660|ori r11 r11 22136"},
		{12, math.MaxInt32, "lui r12 32767|ori r12 r12 65535"}, {13, math.MinInt32, "lui r13 32768"}, {14, 1 << 31, "lui r14 32768"}, {0, math.MaxUint32, "lui r0 65535|ori r0 r0 65535"},
		{0, math.MinInt32 + 1, "lui r0 32768|ori r0 r0 1"}, {0, 0xffff0000, "lui r0 65535"}, {0, 0xffff8000, "lui r0 65535|ori r0 r0 32768"},
	} {
		l, e := asm.Const(x.d, x.n)
		b, f := isa.Code(l...)
		same(t, all("const ", x.d, " ", x.n), all(b, f, e), all(mixed(t, x.want), api.Fault{}, api.OK))
		same(t, all("the line const ", x.d, " ", x.n), said(made(t, fmt.Sprintf("const r%d %d", x.d, x.n))), said(api.Object{Text: b}))
	}
}

// 5.3: registers and numbers that const has not.
func TestConstOutOfRange(t *testing.T) {
	for _, d := range []int{-1, 16, 17, 256, -16, 1 << 32, math.MinInt, math.MaxInt} {
		for _, n := range []int{0, 5, 65536, 65537, -1, math.MinInt32, math.MaxUint32, math.MaxInt} {
			l, e := asm.Const(d, n)
			same(t, all("const ", d, " ", n), all(len(l), e), all(0, api.ErrRange))
		}
	}
	for _, n := range []int{math.MinInt32 - 1, math.MaxUint32 + 1, 1<<32 + 5, -1 << 32, 1<<33 + 1, math.MinInt, math.MaxInt} {
		for _, d := range []int{0, 7, 15} {
			l, e := asm.Const(d, n)
			same(t, all("const ", d, " ", n), all(len(l), e), all(0, api.ErrRange))
		}
	}
}

// 5.7: const's instructions, done on the machine, leave the number modulo 1 << 32 in the register, and all others as they are.
func TestConstDone(t *testing.T) {
	c := chance(5)
	numbers := []int{0, 1, -1, 32767, 32768, -32768, -32769, 65535, 65536, -65536, 40000, math.MaxInt32, math.MinInt32, 1 << 31, math.MaxUint32, 0xffff8000, 0x80008000}
	for range 300 {
		numbers = append(numbers, int(c.next())<<8%(1<<32)+c.below(256), -c.next())
	}
	for i, n := range numbers {
		d := i % 16
		l, e := asm.Const(d, n)
		b, _ := isa.Code(l...)
		m, wrong := emu.New(api.Image{Ranges: []api.Range{{Name: "text", From: 16, Size: 16, Exec: true}}, Fills: []api.Fill{{At: 16, Bytes: b}}, Entry: 16}, nil)
		if e != api.OK || wrong != api.OK {
			t.Fatalf("const %d %d: %v, %v", d, n, e, wrong)
		}
		for r := range 16 {
			m.SetReg(r, 0xabcd0000+uint32(r))
		}
		m.Run(len(l))
		for r := range 16 {
			want := 0xabcd0000 + uint32(r)
			if r == d {
				want = uint32(n)
			}
			got, _ := m.Reg(r)
			same(t, all("register ", r, " after const ", d, " ", n), got, want)
		}
		_, ended := m.Ended()
		same(t, "ended", ended, false)
	}
}

// 5.3: lines, each with a line feed.
func TestLines(t *testing.T) {
	same(t, "none", asm.Lines(), "")
	same(t, "an empty one", asm.Lines(""), "\n")
	same(t, "one", asm.Lines("a:"), "a:\n")
	same(t, "several", asm.Lines("a", "", " b ", "c\n", "d\ne"), "a\n\n b \nc\n\nd\ne\n")
	same(t, "very many", asm.Lines(make([]string, 1<<17)...), strings.Repeat("\n", 1<<17))
}
