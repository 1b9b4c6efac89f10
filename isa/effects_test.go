package isa_test

import (
	"fmt"
	"math"
	"slices"
	"testing"

	"catapult/api"
	"catapult/isa"
)

// 2.3, 2.4: what the rows read, write, and where they go.
func TestEffectsOfRows(t *testing.T) {
	for _, r := range rows() {
		l, e := isa.Reads(r.x)
		same(t, "Reads of "+r.text, []any{l, e}, []any{r.reads, api.OK})
		l, e = isa.Writes(r.x)
		same(t, "Writes of "+r.text, []any{l, e}, []any{r.writes, api.OK})
		next, other, e := isa.Goes(r.x)
		same(t, "Goes of "+r.text, []any{next, other, e}, []any{r.next, r.other, api.OK})
	}
}

// 2.3, 2.4: what is not right has nothing beside the error.
func TestEffectsOfWrong(t *testing.T) {
	for _, x := range wrong() {
		l, e := isa.Reads(x)
		must(t, len(l) == 0 && e == api.ErrInstr, "Reads", x, l, e)
		l, e = isa.Writes(x)
		must(t, len(l) == 0 && e == api.ErrInstr, "Writes", x, l, e)
		next, other, e := isa.Goes(x)
		must(t, !next && !other && e == api.ErrInstr, "Goes", x, next, other, e)
	}
}

// wantReads is the registers that a right instruction reads.
func wantReads(x api.Instr) []int {
	l := []int{}
	switch formsInOrder[x.Op-1] {
	case 'R':
		l = append(l, x.A, x.B)
	case 'S':
		l = append(l, x.A)
		if x.Op >= api.JSw && x.Op <= api.JSb {
			l = append(l, x.D)
		}
	case 'U', 'C', 'E', 'B', 'G':
		l = append(l, x.A)
	case 'T':
		l = append(l, x.D, x.A)
	}
	if x.Op == api.JSys && (x.Imm == 0 || x.Imm == 2) {
		l = append(l, 0)
	}
	slices.Sort(l)
	return slices.Compact(l)
}

// wantWrites is the registers that a right instruction writes.
func wantWrites(x api.Instr) []int {
	switch {
	case x.Op < api.JSw:
		return []int{x.D}
	case x.Op == api.JCall, x.Op == api.JCallR:
		return []int{14}
	case x.Op == api.JSys && x.Imm == 1:
		return []int{0}
	}
	return []int{}
}

// 2.3: all right instructions read and write what the rules have, rising, each once.
func TestReadsAndWrites(t *testing.T) {
	for _, x := range right() {
		reads, e := isa.Reads(x)
		must(t, slices.Equal(reads, wantReads(x)) && e == api.OK, "Reads", x, reads, e)
		writes, e := isa.Writes(x)
		must(t, slices.Equal(writes, wantWrites(x)) && e == api.OK, "Writes", x, writes, e)
	}
}

// 2.4: where all right instructions go.
func TestGoes(t *testing.T) {
	for _, x := range right() {
		next, other, e := isa.Goes(x)
		exit := x.Op == api.JSys && x.Imm == api.SysExit
		stays := x.Op >= api.JJump && x.Op <= api.JCallR || x.Op == api.JTrap || exit
		must(t, next == !stays && other == (x.Op >= api.JBz && x.Op <= api.JCallR) && e == api.OK, "Goes", x, next, other, e)
	}
}

// R4: an answer is new memory: what is written over it is not seen again, nor what was handed in written to.
func TestOwnMemory(t *testing.T) {
	for _, r := range rows() {
		for range 2 {
			reads, _ := isa.Reads(r.x)
			writes, _ := isa.Writes(r.x)
			same(t, r.text, []any{reads, writes}, []any{r.reads, r.writes})
			for i := range reads {
				reads[i] = 99
			}
			for i := range writes {
				writes[i] = 99
			}
		}
	}
	l := []api.Instr{{Op: api.JLi, D: 1, Imm: 5}, {Op: api.JTrap, Imm: 1}}
	was := slices.Clone(l)
	for range 2 {
		b, _ := isa.Code(l...)
		same(t, "code", b, []byte{5, 0, 0x10, 0x19, 1, 0, 0, 0x2a})
		clear(b)
	}
	same(t, "what was handed in", l, was)
}

// answers is what all calls answer of an instruction.
func answers(x api.Instr) string {
	w, e := isa.Encode(x)
	s, e2 := isa.Print(x)
	next, other, e3 := isa.Goes(x)
	reads, e4 := isa.Reads(x)
	writes, e5 := isa.Writes(x)
	code, f := isa.Code(x, x)
	return fmt.Sprint(isa.Check(x), w, e, s, e2, next, other, e3, reads, e4, writes, e5, code, f)
}

// P1, R1, R5: every call answers, whatever it is handed, and the same in any order.
func TestAnswersHangOnArgumentsAlone(t *testing.T) {
	var l []api.Instr
	for _, n := range []int{math.MinInt, -1, 0, 1, 15, 16, 42, math.MaxInt} {
		for _, m := range []int{math.MinInt, -1, 0, 8, 15, 65536, math.MaxInt} {
			l = append(l, api.Instr{Op: n, D: m, A: m, B: m, Imm: m}, api.Instr{Op: n, Imm: m}, api.Instr{Op: n, A: m}, api.Instr{Op: m, D: n})
		}
	}
	for _, r := range rows() {
		l = append(l, r.x)
	}
	var there []string
	for _, x := range l {
		there = append(there, answers(x))
	}
	for i := len(l) - 1; i >= 0; i-- {
		same(t, "once more", answers(l[i]), there[i])
	}
}
