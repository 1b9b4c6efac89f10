package isa_test

import (
	"fmt"
	"math"
	"regexp"
	"strconv"
	"strings"
	"testing"

	"catapult/api"
	"catapult/isa"
)

// What the document's chapter says, reckoned apart from the program: operations, forms, words, texts.

// row is an instruction of the document, and all that is said of it.
type row struct {
	text          string
	x             api.Instr
	word          uint32
	reads, writes []int
	next, other   bool
}

// rows is one instruction or more of each operation, written out.
func rows() []row {
	return []row{
		{"add r1 r2 r3", api.Instr{Op: 1, D: 1, A: 2, B: 3}, 0x01123000, []int{2, 3}, []int{1}, true, false},
		{"sub r15 r14 r0", api.Instr{Op: 2, D: 15, A: 14}, 0x02fe0000, []int{0, 14}, []int{15}, true, false},
		{"mul r4 r4 r4", api.Instr{Op: 3, D: 4, A: 4, B: 4}, 0x03444000, []int{4}, []int{4}, true, false},
		{"div r0 r1 r15", api.Instr{Op: 4, A: 1, B: 15}, 0x0401f000, []int{1, 15}, []int{0}, true, false},
		{"divu r0 r15 r1", api.Instr{Op: 5, A: 15, B: 1}, 0x050f1000, []int{1, 15}, []int{0}, true, false},
		{"rem r9 r10 r11", api.Instr{Op: 6, D: 9, A: 10, B: 11}, 0x069ab000, []int{10, 11}, []int{9}, true, false},
		{"remu r9 r11 r10", api.Instr{Op: 7, D: 9, A: 11, B: 10}, 0x079ba000, []int{10, 11}, []int{9}, true, false},
		{"and r0 r0 r0", api.Instr{Op: 8}, 0x08000000, []int{0}, []int{0}, true, false},
		{"or r5 r0 r7", api.Instr{Op: 9, D: 5, B: 7}, 0x09507000, []int{0, 7}, []int{5}, true, false},
		{"xor r5 r7 r0", api.Instr{Op: 10, D: 5, A: 7}, 0x0a570000, []int{0, 7}, []int{5}, true, false},
		{"shl r12 r13 r14", api.Instr{Op: 11, D: 12, A: 13, B: 14}, 0x0bcde000, []int{13, 14}, []int{12}, true, false},
		{"shr r2 r1 r0", api.Instr{Op: 12, D: 2, A: 1}, 0x0c210000, []int{0, 1}, []int{2}, true, false},
		{"shru r15 r15 r15", api.Instr{Op: 13, D: 15, A: 15, B: 15}, 0x0dfff000, []int{15}, []int{15}, true, false},
		{"lt r6 r8 r7", api.Instr{Op: 14, D: 6, A: 8, B: 7}, 0x0e687000, []int{7, 8}, []int{6}, true, false},
		{"ltu r6 r7 r8", api.Instr{Op: 15, D: 6, A: 7, B: 8}, 0x0f678000, []int{7, 8}, []int{6}, true, false},
		{"eq r3 r2 r1", api.Instr{Op: 16, D: 3, A: 2, B: 1}, 0x10321000, []int{1, 2}, []int{3}, true, false},
		{"ne r10 r2 r9", api.Instr{Op: 17, D: 10, A: 2, B: 9}, 0x11a29000, []int{2, 9}, []int{10}, true, false},
		{"addi r13 r13 -8", api.Instr{Op: 18, D: 13, A: 13, Imm: -8}, 0x12ddfff8, []int{13}, []int{13}, true, false},
		{"andi r1 r2 65535", api.Instr{Op: 19, D: 1, A: 2, Imm: 65535}, 0x1312ffff, []int{2}, []int{1}, true, false},
		{"ori r2 r1 32768", api.Instr{Op: 20, D: 2, A: 1, Imm: 32768}, 0x14218000, []int{1}, []int{2}, true, false},
		{"xori r0 r3 0", api.Instr{Op: 21, A: 3}, 0x15030000, []int{3}, []int{0}, true, false},
		{"shli r7 r8 31", api.Instr{Op: 22, D: 7, A: 8, Imm: 31}, 0x1678001f, []int{8}, []int{7}, true, false},
		{"shri r8 r7 0", api.Instr{Op: 23, D: 8, A: 7}, 0x17870000, []int{7}, []int{8}, true, false},
		{"shrui r8 r8 16", api.Instr{Op: 24, D: 8, A: 8, Imm: 16}, 0x18880010, []int{8}, []int{8}, true, false},
		{"li r11 -32768", api.Instr{Op: 25, D: 11, Imm: -32768}, 0x19b08000, nil, []int{11}, true, false},
		{"li r0 32767", api.Instr{Op: 25, Imm: 32767}, 0x19007fff, nil, []int{0}, true, false},
		{"lui r12 65535", api.Instr{Op: 26, D: 12, Imm: 65535}, 0x1ac0ffff, nil, []int{12}, true, false},
		{"ext r4 r5 8", api.Instr{Op: 27, D: 4, A: 5, Imm: 8}, 0x1b450008, []int{5}, []int{4}, true, false},
		{"ext r5 r4 16", api.Instr{Op: 27, D: 5, A: 4, Imm: 16}, 0x1b540010, []int{4}, []int{5}, true, false},
		{"lw r0 r13 4", api.Instr{Op: 28, A: 13, Imm: 4}, 0x1c0d0004, []int{13}, []int{0}, true, false},
		{"lh r1 r2 -2", api.Instr{Op: 29, D: 1, A: 2, Imm: -2}, 0x1d12fffe, []int{2}, []int{1}, true, false},
		{"lb r2 r1 -1", api.Instr{Op: 30, D: 2, A: 1, Imm: -1}, 0x1e21ffff, []int{1}, []int{2}, true, false},
		{"sw r14 r13 0", api.Instr{Op: 31, D: 14, A: 13}, 0x1fed0000, []int{13, 14}, nil, true, false},
		{"sh r3 r9 2", api.Instr{Op: 32, D: 3, A: 9, Imm: 2}, 0x20390002, []int{3, 9}, nil, true, false},
		{"sb r6 r6 1", api.Instr{Op: 33, D: 6, A: 6, Imm: 1}, 0x21660001, []int{6}, nil, true, false},
		{"bz r15 -32768", api.Instr{Op: 34, A: 15, Imm: -32768}, 0x220f8000, []int{15}, nil, true, true},
		{"bnz r1 32767", api.Instr{Op: 35, A: 1, Imm: 32767}, 0x23017fff, []int{1}, nil, true, true},
		{"blu r13 r12 3", api.Instr{Op: 36, D: 13, A: 12, Imm: 3}, 0x24dc0003, []int{12, 13}, nil, true, true},
		{"blu r2 r2 -3", api.Instr{Op: 36, D: 2, A: 2, Imm: -3}, 0x2422fffd, []int{2}, nil, true, true},
		{"jump -1", api.Instr{Op: 37, Imm: -1}, 0x25ffffff, nil, nil, false, true},
		{"jump 8388607", api.Instr{Op: 37, Imm: 8388607}, 0x257fffff, nil, nil, false, true},
		{"call -8388608", api.Instr{Op: 38, Imm: -8388608}, 0x26800000, nil, []int{14}, false, true},
		{"reg r14", api.Instr{Op: 39, A: 14}, 0x270e0000, []int{14}, nil, false, true},
		{"callr r5", api.Instr{Op: 40, A: 5}, 0x28050000, []int{5}, []int{14}, false, true},
		{"callr r14", api.Instr{Op: 40, A: 14}, 0x280e0000, []int{14}, []int{14}, false, true},
		{"sys 0", api.Instr{Op: 41}, 0x29000000, []int{0}, nil, false, false},
		{"sys 1", api.Instr{Op: 41, Imm: 1}, 0x29000001, nil, []int{0}, true, false},
		{"sys 2", api.Instr{Op: 41, Imm: 2}, 0x29000002, []int{0}, nil, true, false},
		{"sys 3", api.Instr{Op: 41, Imm: 3}, 0x29000003, nil, nil, true, false},
		{"sys 65535", api.Instr{Op: 41, Imm: 65535}, 0x2900ffff, nil, nil, true, false},
		{"trap 0", api.Instr{Op: 42}, 0x2a000000, nil, nil, false, false},
		{"trap 1", api.Instr{Op: 42, Imm: 1}, 0x2a000001, nil, nil, false, false},
		{"trap 65535", api.Instr{Op: 42, Imm: 65535}, 0x2a00ffff, nil, nil, false, false},
	}
}

// Operations' words, and the letters of their forms, from 1 on.
const (
	wordsInOrder = "add sub mul div divu rem remu and or xor shl shr shru lt ltu eq ne addi andi ori xori shli shri shrui li lui ext lw lh lb sw sh sb bz bnz blu jump call reg callr sys trap"
	formsInOrder = "RRRRRRRRRRRRRRRRRSUUUCCCLHESSSSSSBBTJJGGWW"
	lastOp       = 42
)

// fields is what a form has, by its letter.
type fields struct {
	registers string // of d, a, b
	imms      [2]int // the least and the greatest; both 0: there is none
}

func fieldsOf(letter byte) fields {
	signed, unsigned := [2]int{-32768, 32767}, [2]int{0, 65535}
	switch letter {
	case 'R':
		return fields{registers: "dab"}
	case 'S', 'T':
		return fields{"da", signed}
	case 'U':
		return fields{"da", unsigned}
	case 'C':
		return fields{"da", [2]int{0, 31}}
	case 'L':
		return fields{"d", signed}
	case 'H':
		return fields{"d", unsigned}
	case 'E':
		return fields{"da", [2]int{8, 16}}
	case 'B':
		return fields{"a", signed}
	case 'J':
		return fields{"", [2]int{-8388608, 8388607}}
	case 'G':
		return fields{registers: "a"}
	}
	return fields{"", unsigned} // W
}

// fieldsOfOp is what an operation's form has; false, if there is no such operation.
func fieldsOfOp(op int) (fields, bool) {
	if op < 1 || op > lastOp {
		return fields{}, false
	}
	return fieldsOf(formsInOrder[op-1]), true
}

func (f fields) has(register string) bool { return strings.Contains(f.registers, register) }

func (f fields) hasImm() bool { return f.imms != [2]int{} }

// wantRight tells whether an instruction is right.
func wantRight(x api.Instr) bool {
	f, ok := fieldsOfOp(x.Op)
	if !ok || x.Op == api.JExt && x.Imm%8 != 0 {
		return false
	}
	for i, n := range []int{x.D, x.A, x.B} {
		most := 0
		if f.has("dab"[i : i+1]) {
			most = 15
		}
		if n < 0 || n > most {
			return false
		}
	}
	return f.imms[0] <= x.Imm && x.Imm <= f.imms[1]
}

// wantWord is a right instruction's word.
func wantWord(x api.Instr) uint32 {
	imm := x.Imm
	if imm < 0 && formsInOrder[x.Op-1] == 'J' {
		imm += 1 << 24
	} else if imm < 0 {
		imm += 1 << 16
	}
	return uint32(x.Op*(1<<24) + x.D*(1<<20) + x.A*(1<<16) + x.B*(1<<12) + imm)
}

// wantText is a right instruction's text.
func wantText(x api.Instr) string {
	f, _ := fieldsOfOp(x.Op)
	text := strings.Fields(wordsInOrder)[x.Op-1]
	for i, n := range []int{x.D, x.A, x.B} {
		if f.has("dab"[i : i+1]) {
			text += fmt.Sprintf(" r%d", n)
		}
	}
	if f.hasImm() {
		text += fmt.Sprintf(" %d", x.Imm)
	}
	return text
}

// wantDecoded is the instruction of a word, and whether there is one.
func wantDecoded(w uint32) (api.Instr, bool) {
	n := int(w)
	x := api.Instr{Op: n / (1 << 24)}
	f, ok := fieldsOfOp(x.Op)
	if !ok {
		return api.Instr{}, false
	}
	rest, wide := n%(1<<24), formsInOrder[x.Op-1] == 'J'
	switch {
	case wide:
		x.Imm, rest = rest, 0
	case f.hasImm():
		x.Imm, rest = rest%(1<<16), rest/(1<<16)*(1<<16)
	}
	if x.Imm > f.imms[1] && f.imms[0] < 0 {
		x.Imm -= 2 * (f.imms[1] + 1)
	}
	x.D, x.A, x.B = rest/(1<<20), rest/(1<<16)%16, rest/(1<<12)%16
	if !wantRight(x) || rest%(1<<12) != 0 {
		return api.Instr{}, false
	}
	return x, true
}

// wantParsed is the instruction of a text, and whether there is one.
func wantParsed(s string) (api.Instr, bool) {
	parts := strings.Split(s, " ")
	x := api.Instr{}
	for i, w := range strings.Fields(wordsInOrder) {
		if w == parts[0] {
			x.Op = i + 1
		}
	}
	f, ok := fieldsOfOp(x.Op)
	if !ok {
		return api.Instr{}, false
	}
	forms := []string{}
	for range f.registers {
		forms = append(forms, `r(0|[1-9]|1[0-5])`)
	}
	if f.hasImm() {
		forms = append(forms, `(0|-?[1-9][0-9]{0,7})`)
	}
	all := regexp.MustCompile(`\A` + strings.Join(forms, " ") + `\z`).FindStringSubmatch(strings.Join(parts[1:], " "))
	if all == nil {
		return api.Instr{}, false
	}
	for i, r := range f.registers {
		*map[rune]*int{'d': &x.D, 'a': &x.A, 'b': &x.B}[r], _ = strconv.Atoi(all[1+i])
	}
	if f.hasImm() {
		x.Imm, _ = strconv.Atoi(all[len(all)-1])
	}
	return x, wantRight(x)
}

// right is right instructions of all operations: all registers, the edges of Imm, and some Imm in between.
func right() []api.Instr {
	var l []api.Instr
	for op := 1; op <= lastOp; op++ {
		f, _ := fieldsOfOp(op)
		for _, d := range registersOf(f, "d") {
			for _, a := range registersOf(f, "a") {
				for _, b := range registersOf(f, "b") {
					for _, imm := range immsOf(op) {
						l = append(l, api.Instr{Op: op, D: d, A: a, B: b, Imm: imm})
					}
				}
			}
		}
	}
	return l
}

func registersOf(f fields, register string) []int {
	if !f.has(register) {
		return []int{0}
	}
	return []int{0, 1, 2, 3, 4, 5, 6, 7, 8, 9, 10, 11, 12, 13, 14, 15}
}

// immsOf is the edges of an operation's Imm, and some in between, that are right.
func immsOf(op int) []int {
	f, _ := fieldsOfOp(op)
	least, most := f.imms[0], f.imms[1]
	var l []int
	seen := map[int]bool{}
	for _, imm := range []int{least, least + 1, most - 1, most, -1, 0, 1, 2, 8, 10, 16, 30, 255, 256, -255, -256, 4660, -4660, 32768, 1 << 20, -1 << 20} {
		if imm >= least && imm <= most && (op != api.JExt || imm == 8 || imm == 16) && !seen[imm] {
			seen[imm] = true
			l = append(l, imm)
		}
	}
	return l
}

// wrong is instructions that are not right: each with one field out of its range, or with an operation that there is none.
func wrong() []api.Instr {
	var l []api.Instr
	for _, op := range []int{0, -1, -42, 43, 44, 64, 127, 128, 255, 256, 257, 256 + 42, 1<<32 + 1, 1<<40 + 18, math.MinInt, math.MinInt + 1, math.MaxInt} {
		l = append(l, api.Instr{Op: op}, api.Instr{Op: op, D: 1, A: 2, B: 3}, api.Instr{Op: op, D: 1, A: 2, Imm: 8})
	}
	beyond := []int{-1, 16, 17, 31, 32, 256, -16, 1 << 16, 1 << 32, 1<<32 + 1, -1 << 32, math.MinInt, math.MaxInt}
	for op := 1; op <= lastOp; op++ {
		f, _ := fieldsOfOp(op)
		base := api.Instr{Op: op, Imm: f.imms[1]}
		for _, n := range beyond {
			l = append(l, with(base, "d", n), with(base, "a", n), with(base, "b", n))
		}
		for _, register := range []string{"d", "a", "b"} {
			if !f.has(register) {
				l = append(l, with(base, register, 1), with(base, register, 2), with(base, register, 14), with(base, register, 15))
			}
		}
		for _, n := range wrongImms(op) {
			l = append(l, with(base, "imm", n))
		}
	}
	return l
}

// wrongImms is Imms that an operation may not have.
func wrongImms(op int) []int {
	f, _ := fieldsOfOp(op)
	l := []int{f.imms[0] - 1, f.imms[1] + 1, f.imms[0] - 1000, f.imms[1] + 1000, 1 << 24, -1 << 24, 1 << 32, 1<<32 + 8, -1 << 32, math.MinInt, math.MaxInt}
	if op == api.JExt {
		l = append(l, -8, 0, 1, 9, 10, 12, 14, 15, 24, 32)
	}
	return l
}

// with is an instruction with another number in a field.
func with(x api.Instr, field string, n int) api.Instr {
	switch field {
	case "d":
		x.D = n
	case "a":
		x.A = n
	case "b":
		x.B = n
	default:
		x.Imm = n
	}
	return x
}

// same fails where an answer is another one than what is wanted (an empty list is as none).
func same(t *testing.T, what string, got, want any) {
	t.Helper()
	if g, w := fmt.Sprint(got), fmt.Sprint(want); g != w {
		t.Errorf("%s: %s, want %s", what, g, w)
	}
}

// must fails, and ends the test, where something does not hold; for what is asked of very many.
func must(t *testing.T, holds bool, what string, about ...any) {
	t.Helper()
	if !holds {
		t.Fatalf("%s: %v", what, about)
	}
}

// The instructions that these tests take for wrong are so by the rules too, and those that they take for right.
func TestSamples(t *testing.T) {
	for _, x := range right() {
		must(t, wantRight(x), "right", x)
	}
	for _, x := range wrong() {
		must(t, !wantRight(x), "wrong", x)
	}
	seen := map[int]bool{}
	for _, r := range rows() {
		must(t, wantRight(r.x) && wantWord(r.x) == r.word && wantText(r.x) == r.text, "as the rules have it", r)
		seen[r.x.Op] = true
	}
	must(t, len(seen) == lastOp && isa.Check(api.Instr{Op: lastOp}) == api.OK, "a row of each operation", len(seen))
}
