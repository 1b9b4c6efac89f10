package isa_test

import (
	"bytes"
	"slices"
	"testing"

	"catapult/api"
	"catapult/isa"
)

// 2.1: the rows of the document and of each operation are right, and have their words.
func TestCheckEncodeDecodeRows(t *testing.T) {
	for _, r := range rows() {
		same(t, "Check of "+r.text, isa.Check(r.x), api.OK)
		w, e := isa.Encode(r.x)
		same(t, "Encode of "+r.text, []any{w, e}, []any{r.word, api.OK})
		x, e := isa.Decode(r.word)
		same(t, "Decode of the word of "+r.text, []any{x, e}, []any{r.x, api.OK})
	}
}

// 2.1: all right instructions have their words.
func TestCheckAndEncodeRight(t *testing.T) {
	for _, x := range right() {
		w, e := isa.Encode(x)
		must(t, isa.Check(x) == api.OK && e == api.OK && w == wantWord(x), "right", x, w, e)
	}
}

// 2.1: what is not right is refused, with nothing beside the error.
func TestCheckAndEncodeWrong(t *testing.T) {
	for _, x := range wrong() {
		w, e := isa.Encode(x)
		must(t, isa.Check(x) == api.ErrInstr && e == api.ErrInstr && w == 0, "wrong", x, w, e)
	}
}

// 2.1: any Imm near an edge of any range is right or wrong as the form has it.
func TestCheckAboutTheEdges(t *testing.T) {
	for op := -1; op <= lastOp+2; op++ {
		for _, edge := range []int{0, 8, 16, 31, 32, 32767, 65535, 8388607, 1<<24 - 1, -32768, -65536, -8388608, -1 << 24} {
			for imm := edge - 2; imm <= edge+2; imm++ {
				x := api.Instr{Op: op, Imm: imm}
				must(t, (isa.Check(x) == api.OK) == wantRight(x), "about an edge", x)
			}
		}
	}
}

// 2.1: any registers from -1 to 17 are right or wrong as the form has it.
func TestCheckAboutTheRegisters(t *testing.T) {
	for op := 1; op <= lastOp; op++ {
		f, _ := fieldsOfOp(op)
		for d := -1; d <= 17; d++ {
			for a := -1; a <= 17; a++ {
				for b := -1; b <= 17; b++ {
					x := api.Instr{Op: op, D: d, A: a, B: b, Imm: f.imms[1]}
					must(t, (isa.Check(x) == api.OK) == wantRight(x), "about the registers", x)
				}
			}
		}
	}
}

// 2.1: the document's words that are none, and others.
func TestDecodeWrong(t *testing.T) {
	words := []uint32{
		0, 0x01123001, 0x01123800, 0x2b000000, 0xff000000, 0xffffffff, 0x00123000, 0x80000000, 0x81123000,
		0x16780020, 0x1678ffff, 0x1b450007, 0x1b450009, 0x1b450000, 0x1b450018, 0x1b45ffff, 0x1b450108,
		0x19b18000, 0x1ac1ffff, 0x221f8000, 0x271e0000, 0x270e0001, 0x270e1000, 0x29100000, 0x29010000, 0x2a010001, 0x2a100000,
	}
	for _, w := range words {
		x, e := isa.Decode(w)
		must(t, x == api.Instr{} && e == api.ErrInstr, "no instruction has the word", w, x, e)
	}
}

// 2.1: words of all first bytes are what the rules have: of operations with all registers, of others with some.
func TestDecodeAll(t *testing.T) {
	lows := []uint32{0, 1, 7, 8, 9, 15, 16, 17, 31, 32, 255, 256, 0x7ff, 0x800, 0xfff}
	for op := range uint32(256) {
		step := uint32(1)
		if op > lastOp {
			step = 85
		}
		for high := uint32(0); high < 1<<12; high += step {
			for _, low := range lows {
				w := op<<24 | high<<12 | low
				want, ok := wantDecoded(w)
				x, e := isa.Decode(w)
				if x != want || (e == api.OK) != ok || !ok && e != api.ErrInstr {
					t.Fatalf("Decode of %#x: %v, %v, want %v, %v", w, x, e, want, ok)
				}
			}
		}
	}
}

// 2.1: of each word each single bit turned is what the rules have.
func TestDecodeBitByBit(t *testing.T) {
	for _, r := range rows() {
		for bit := range 32 {
			w := r.word ^ 1<<bit
			want, ok := wantDecoded(w)
			x, e := isa.Decode(w)
			must(t, x == want && (e == api.OK) == ok && (ok || e == api.ErrInstr), "a bit turned", r.text, bit, x, e)
		}
	}
}

// 2.5: instructions' words, one behind the other, the lowest byte first.
func TestCode(t *testing.T) {
	b, f := isa.Code()
	same(t, "of none", []any{b, f}, []any{[]byte{}, api.Fault{}})
	b, f = isa.Code(api.Instr{Op: api.JAdd, D: 1, A: 2, B: 3})
	same(t, "of one", []any{b, f}, []any{[]byte{0x00, 0x30, 0x12, 0x01}, api.Fault{}})
	var l []api.Instr
	var want []byte
	for _, r := range rows() {
		l = append(l, r.x)
		want = append(want, byte(r.word), byte(r.word>>8), byte(r.word>>16), byte(r.word>>24))
	}
	b, f = isa.Code(l...)
	same(t, "of all rows", []any{b, f}, []any{want, api.Fault{}})
}

// 2.5: the first that is not right is told, and nothing beside it.
func TestCodeWrong(t *testing.T) {
	good := api.Instr{Op: api.JLi, D: 1, Imm: 5}
	for _, bad := range wrong() {
		for at := range 4 {
			l := []api.Instr{good, good, good, good}
			l[at], l[3] = bad, bad
			b, f := isa.Code(l...)
			must(t, len(b) == 0 && f == api.Fault{At: at, Code: api.ErrInstr}, "the first one", at, bad, b, f)
		}
	}
}

// 2.5: MaxItems instructions and no more; too many is told ahead of wrong ones.
func TestCodeLong(t *testing.T) {
	good := api.Instr{Op: api.JTrap, Imm: 0x1234}
	full := slices.Repeat([]api.Instr{good}, api.MaxItems)
	b, f := isa.Code(full...)
	must(t, f == api.Fault{} && bytes.Equal(b, bytes.Repeat([]byte{0x34, 0x12, 0, 42}, api.MaxItems)), "MaxItems", len(b), f)
	b, f = isa.Code(append(full, good)...)
	same(t, "one more", []any{b, f}, []any{[]byte{}, api.Fault{Code: api.ErrLong}})
	full[api.MaxItems-1] = api.Instr{}
	b, f = isa.Code(full...)
	same(t, "the last one wrong", []any{b, f}, []any{[]byte{}, api.Fault{At: api.MaxItems - 1, Code: api.ErrInstr}})
	full[7] = api.Instr{}
	b, f = isa.Code(append(full, good)...)
	same(t, "wrong ones, and one more", []any{b, f}, []any{[]byte{}, api.Fault{Code: api.ErrLong}})
}

// 2.6: Decode of Encode is the instruction; what is decoded is encoded to that word.
func TestWordsThereAndBack(t *testing.T) {
	for _, x := range right() {
		w, _ := isa.Encode(x)
		back, e := isa.Decode(w)
		must(t, back == x && e == api.OK, "there and back", x, w, back, e)
	}
	w := uint32(2463534242)
	for range 1 << 20 {
		w = w*1664525 + 1013904223
		turned := w % (48 << 24) // most operations are below
		x, e := isa.Decode(turned)
		if e != api.OK {
			continue
		}
		back, e := isa.Encode(x)
		must(t, back == turned && e == api.OK, "back and there", turned, x, back, e)
	}
}

// 2.7: no two instructions have one word.
func TestWordsApart(t *testing.T) {
	of := map[uint32]api.Instr{}
	for _, x := range right() {
		w, _ := isa.Encode(x)
		other, taken := of[w]
		must(t, !taken, "one word of two", x, other, w)
		of[w] = x
	}
}
