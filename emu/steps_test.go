package emu_test

import (
	"strings"
	"testing"

	"catapult/api"
)

// low is the least number, as a word; minus is the word of -n.
const low = 1 << 31

func minus(n int) int { return words - n }

// The words: what operations make of r2 and r3, or of r2 and a number; r1 has it then.
func TestReckoning(t *testing.T) {
	for _, x := range []struct {
		code       string
		a, b, want int
	}{
		{"add r1 r2 r3", 2, 3, 5}, {"add r1 r2 r3", words - 1, 2, 1}, {"add r1 r2 r3", low, low, 0},
		{"sub r1 r2 r3", 5, 3, 2}, {"sub r1 r2 r3", 3, 5, minus(2)}, {"sub r1 r2 r3", 0, low, low},
		{"mul r1 r2 r3", 6, 7, 42}, {"mul r1 r2 r3", minus(6), 7, minus(42)}, {"mul r1 r2 r3", 1 << 16, 1 << 16, 0}, {"mul r1 r2 r3", words - 1, words - 1, 1}, {"mul r1 r2 r3", 0x12345678, 0x9abcdef0, 0x242d2080},
		{"div r1 r2 r3", 7, 2, 3}, {"div r1 r2 r3", minus(7), 2, minus(3)}, {"div r1 r2 r3", 7, minus(2), minus(3)}, {"div r1 r2 r3", minus(7), minus(2), 3}, {"div r1 r2 r3", low, minus(1), low}, {"div r1 r2 r3", 0, 5, 0},
		{"divu r1 r2 r3", 7, 2, 3}, {"divu r1 r2 r3", minus(7), 2, 0x7ffffffc}, {"divu r1 r2 r3", low, minus(1), 0}, {"divu r1 r2 r3", words - 1, 1, words - 1},
		{"rem r1 r2 r3", 7, 2, 1}, {"rem r1 r2 r3", minus(7), 2, minus(1)}, {"rem r1 r2 r3", 7, minus(2), 1}, {"rem r1 r2 r3", minus(7), minus(2), minus(1)}, {"rem r1 r2 r3", low, minus(1), 0},
		{"remu r1 r2 r3", 7, 2, 1}, {"remu r1 r2 r3", minus(7), 10, 9}, {"remu r1 r2 r3", low, minus(1), low}, {"remu r1 r2 r3", 9, 9, 0},
		{"and r1 r2 r3", 0xff00ff00, 0x0ff00ff0, 0x0f000f00}, {"or r1 r2 r3", 0xff00ff00, 0x0ff00ff0, 0xfff0fff0}, {"xor r1 r2 r3", 0xff00ff00, 0x0ff00ff0, 0xf0f0f0f0},
		{"shl r1 r2 r3", 0x80000001, 4, 0x10}, {"shl r1 r2 r3", 3, 31, low}, {"shl r1 r2 r3", 3, 32, 3}, {"shl r1 r2 r3", 3, minus(1), low}, {"shl r1 r2 r3", 3, 0, 3},
		{"shr r1 r2 r3", 0x80000001, 4, 0xf8000000}, {"shr r1 r2 r3", 0x40000000, 4, 0x04000000}, {"shr r1 r2 r3", low, 31, words - 1}, {"shr r1 r2 r3", low, 33, 0xc0000000}, {"shr r1 r2 r3", low, 32, low},
		{"shru r1 r2 r3", 0x80000001, 4, 0x08000000}, {"shru r1 r2 r3", low, 31, 1}, {"shru r1 r2 r3", low, 33, 0x40000000}, {"shru r1 r2 r3", low, minus(32), low},
		{"lt r1 r2 r3", 1, 2, 1}, {"lt r1 r2 r3", 2, 2, 0}, {"lt r1 r2 r3", minus(1), 0, 1}, {"lt r1 r2 r3", 0, minus(1), 0}, {"lt r1 r2 r3", low, low - 1, 1}, {"lt r1 r2 r3", low - 1, low, 0},
		{"ltu r1 r2 r3", 1, 2, 1}, {"ltu r1 r2 r3", 2, 2, 0}, {"ltu r1 r2 r3", minus(1), 0, 0}, {"ltu r1 r2 r3", 0, minus(1), 1}, {"ltu r1 r2 r3", low, low - 1, 0}, {"ltu r1 r2 r3", low - 1, low, 1},
		{"eq r1 r2 r3", 5, 5, 1}, {"eq r1 r2 r3", 5, low + 5, 0}, {"ne r1 r2 r3", 5, 5, 0}, {"ne r1 r2 r3", 5, low + 5, 1},
		{"addi r1 r2 -8", 5, 9, minus(3)}, {"addi r1 r2 32767", low, 9, low + 32767}, {"addi r1 r2 -32768", 0, 9, minus(32768)}, {"addi r1 r2 1", words - 1, 9, 0},
		{"andi r1 r2 65535", 0x12345678, 9, 0x5678}, {"andi r1 r2 32768", words - 1, 9, 0x8000}, {"ori r1 r2 65535", 0x12340000, 9, 0x1234ffff}, {"ori r1 r2 32768", 1, 9, 0x8001}, {"xori r1 r2 65535", words - 1, 9, 0xffff0000}, {"xori r1 r2 32768", 0x8001, 9, 1},
		{"shli r1 r2 31", 3, 9, low}, {"shli r1 r2 0", 3, 9, 3}, {"shri r1 r2 31", low, 9, words - 1}, {"shri r1 r2 1", low, 9, 0xc0000000}, {"shrui r1 r2 31", low, 9, 1}, {"shrui r1 r2 1", low, 9, 0x40000000},
		{"li r1 -32768", 7, 9, minus(32768)}, {"li r1 32767", 7, 9, 32767}, {"li r1 -1", 7, 9, words - 1}, {"li r1 0", 7, 9, 0},
		{"lui r1 65535", 7, 9, 0xffff0000}, {"lui r1 1", 7, 9, 0x10000}, {"lui r1 0", 7, 9, 0},
		{"ext r1 r2 8", 0x1ff, 9, words - 1}, {"ext r1 r2 8", 0xffffff7f, 9, 0x7f}, {"ext r1 r2 8", 0x80, 9, minus(128)}, {"ext r1 r2 16", 0x12348000, 9, minus(32768)}, {"ext r1 r2 16", 0xffff7fff, 9, 0x7fff},
	} {
		m := set(t, machineOf(t, x.code), 0, 1000, 1, 1001, 2, x.a, 3, x.b, 4, 1004)
		want := regsOf(t, m)
		want[1] = uint32(x.want)
		effect, e := m.Step()
		same(t, all(x.code, " of ", x.a, " ", x.b), all(regsOf(t, m), m.Place(), effect, e), all(want, text+4, api.Effect{Pc: text}, api.OK))
	}
}

// The words: a register that is read and written.
func TestOneRegisterForAll(t *testing.T) {
	for code, want := range map[string]int{"add r5 r5 r5": 42, "sub r5 r5 r5": 0, "mul r5 r5 r5": 441, "div r5 r5 r5": 1, "remu r5 r5 r5": 0, "shl r5 r5 r5": 21 << 21, "eq r5 r5 r5": 1, "addi r5 r5 -1": 20, "shri r5 r5 2": 5, "ext r5 r5 16": 21} {
		m := set(t, machineOf(t, code), 5, 21)
		m.Step()
		same(t, code, regsOf(t, m), [16]uint32{5: uint32(want)})
	}
}

// The words: what is loaded is signed, from an address that goes round.
func TestLoads(t *testing.T) {
	for _, x := range []struct {
		code       string
		base, want int
	}{
		{"lw r1 r2 0", data, 0x83820180}, {"lw r1 r2 4", data, 0x7f807fff}, {"lw r1 r2 -4", data + 8, 0x7f807fff},
		{"lh r1 r2 0", data, 0x180}, {"lh r1 r2 2", data, minus(0x10000) + 0x8382}, {"lh r1 r2 4", data, 0x7fff}, {"lh r1 r2 -2", data + 8, 0x7f80},
		{"lb r1 r2 0", data, minus(128)}, {"lb r1 r2 1", data, 1}, {"lb r1 r2 2", data, minus(126)}, {"lb r1 r2 4", data, words - 1}, {"lb r1 r2 5", data, 0x7f}, {"lb r1 r2 -1", data + 1, minus(128)},
		{"lw r1 r2 -32768", data + 32768, 0x83820180}, {"lw r1 r2 32767", data - 32767, 0x83820180}, {"lw r1 r2 8196", words - 4, 0x83820180}, {"lw r1 r2 -8", 0, 0x01020304}, {"lb r1 r2 -1", 0, 5}, {"lh r1 r2 -4", 0, 0x0606}, {"lw r1 r2 0", words - 4, 0x05060606},
		{"lw r1 r2 0", text, 0x1c120000}, {"lw r1 r2 0", rom, 0},
	} {
		m := set(t, machineOf(t, x.code), 2, x.base)
		m.Poke(data, []byte{0x80, 0x01, 0x82, 0x83, 0xff, 0x7f, 0x80, 0x7f})
		m.Poke(words-8, []byte{4, 3, 2, 1, 6, 6, 6, 5})
		effect, e := m.Step()
		same(t, all(x.code, " of ", x.base), all(regsOf(t, m), m.Place(), effect, e), all([16]uint32{1: uint32(x.want), 2: uint32(x.base)}, text+4, api.Effect{Pc: text}, api.OK))
	}
	m := set(t, machineOf(t, "lw r2 r2 0"), 2, text)
	m.Step()
	same(t, "the address is written over", regsOf(t, m)[2], 0x1c220000)
}

// The words: what is stored is the lowest bytes, at an address that goes round.
func TestStores(t *testing.T) {
	for _, x := range []struct {
		code     string
		base, at int
		want     []byte
	}{
		{"sw r1 r2 0", data, data, []byte{0x84, 0x83, 0x82, 0x81}}, {"sh r1 r2 6", data, data + 6, []byte{0x84, 0x83}}, {"sb r1 r2 -3", data + 8, data + 5, []byte{0x84}},
		{"sw r1 r2 -4", 0, words - 4, []byte{0x84, 0x83, 0x82, 0x81}}, {"sh r1 r2 18", words - 2, 16, []byte{0x84, 0x83}}, {"sb r1 r2 -1", 0, words - 1, []byte{0x84}}, {"sb r1 r2 31", 0, 31, []byte{0x84}},
		{"sw r1 r2 32764", both - 32764, both, []byte{0x84, 0x83, 0x82, 0x81}}, {"sh r1 r2 -32768", both + 32768, both, []byte{0x84, 0x83}},
	} {
		m := set(t, machineOf(t, x.code), 1, 0x81828384, 2, x.base)
		regs := regsOf(t, m)
		effect, e := m.Step()
		n := len(x.want)
		same(t, all(x.code, " of ", x.base), all(effect, e, regsOf(t, m), m.Place()), all(api.Effect{Pc: text, At: x.at, Bytes: n}, api.OK, regs, text+4))
		b, e := m.Peek(x.at, n)
		same(t, all(x.code, " of ", x.base, ": what is there, what is changed"), all(b, e, m.Changed()), all(x.want, api.OK, []api.Gap{{From: x.at, Size: n}}))
	}
}

// The words: whether branches go, and where to.
func TestBranches(t *testing.T) {
	const next = text + 516
	for _, x := range []struct {
		code       string
		a, b, want int
	}{
		{"bz r1 5", 0, 1, next + 20}, {"bz r1 5", 1, 0, next}, {"bz r1 5", low, 0, next}, {"bz r1 -5", 0, 1, next - 20}, {"bz r1 -1", 0, 1, next - 4}, {"bz r1 0", 0, 1, next},
		{"bz r1 32767", 0, 1, next + 4*32767}, {"bz r1 -32768", 0, 1, words + next - 4*32768},
		{"bnz r1 5", 1, 0, next + 20}, {"bnz r1 5", low, 0, next + 20}, {"bnz r1 5", 0, 1, next}, {"bnz r1 -7", words - 1, 0, next - 28}, {"bnz r1 32767", 1, 1, next + 4*32767}, {"bnz r1 -32768", 1, 1, words + next - 4*32768},
		{"blu r1 r2 5", 1, 2, next + 20}, {"blu r1 r2 5", 2, 2, next}, {"blu r1 r2 5", 2, 1, next}, {"blu r1 r2 5", 1, words - 1, next + 20}, {"blu r1 r2 5", words - 1, 1, next}, {"blu r1 r2 5", low - 1, low, next + 20}, {"blu r1 r2 -5", 0, 1, next - 20},
		{"blu r1 r1 5", 3, 9, next}, {"blu r1 r2 -32768", 0, 1, words + next - 4*32768},
		{"jump 5", 0, 0, next + 20}, {"jump -1", 0, 0, next - 4}, {"jump 0", 0, 0, next}, {"jump 8388607", 0, 0, next + 4*8388607}, {"jump -8388608", 0, 0, words + next - 4*8388608},
		{"reg r1", 0, 0, 0}, {"reg r1", 7, 0, 7}, {"reg r1", words - 1, 0, words - 1}, {"reg r2", 1, low, low}, {"reg r14", 0, 0, 0x1234},
	} {
		m := at(t, set(t, machineOf(t, "addi r0 r0 0"), 1, x.a, 2, x.b, 14, 0x1234), text+512)
		m.Poke(text+512, assembled(t, x.code))
		regs := regsOf(t, m)
		effect, e := m.Step()
		same(t, all(x.code, " of ", x.a, " ", x.b), all(m.Place(), effect, e, regsOf(t, m)), all(x.want, api.Effect{Pc: text + 512}, api.OK, regs))
	}
}

// The words: calls set the link to the next address, behind the register that they go to being read.
func TestCalls(t *testing.T) {
	for _, x := range []struct {
		code string
		want int
	}{
		{"call 5", text + 4 + 20}, {"call -1", text}, {"call 0", text + 4}, {"call 8388607", text + 4 + 4*8388607}, {"call -8388608", words + text + 4 - 4*8388608},
		{"callr r1", data}, {"callr r14", 0x1234}, {"callr r0", 0},
	} {
		m := set(t, machineOf(t, x.code), 1, data, 14, 0x1234)
		want := regsOf(t, m)
		want[14] = text + 4
		effect, e := m.Step()
		same(t, x.code, all(m.Place(), effect, e, regsOf(t, m)), all(x.want, api.Effect{Pc: text}, api.OK, want))
	}
	m := machineOf(t, "call 2", "sys 0", "trap 9", "li r0 5", "reg r14")
	r, e := m.Run(100)
	same(t, "there and back", all(r, e, m.Steps()), all(api.Run{End: api.EndExit, Code: 5}, api.OK, 4))
}

// The words: the place goes round behind the greatest address, and so do the places that instructions there go to.
func TestPlacesGoRound(t *testing.T) {
	for code, want := range map[string]int{
		"addi r1 r1 1": 0, "lw r1 r13 0": 0, "sw r1 r13 0": 0, "bz r1 0": 0, "bz r1 4": 16, "bnz r1 4": 0, "jump 6": 24, "jump -1": words - 4, "jump -2": words - 8, "call 4": 16, "reg r13": data, "callr r13": data, "sys 1": 0, "sys 2": 0,
	} {
		m := at(t, set(t, machineOf(t), 13, data), words-4)
		same(t, "Poke", m.Poke(words-4, assembled(t, code)), api.OK)
		effect, e := m.Step()
		same(t, code, all(m.Place(), effect.Pc, e), all(want, words-4, api.OK))
		if strings.HasPrefix(code, "call") {
			same(t, code+": the link", regsOf(t, m)[14], 0)
		}
	}
	m := at(t, machineOf(t), 16)
	m.Poke(16, assembled(t, "jump -6"))
	m.Poke(words-8, assembled(t, "li r1 3", "trap 1"))
	m.Poke(words-4, assembled(t, "jump 4"))
	m.Step()
	same(t, "backwards", m.Place(), words-4)
	m.Step()
	same(t, "and forwards", m.Place(), 16)
}

// The words: code that is stored is run as it is then.
func TestStoredCodeIsRun(t *testing.T) {
	im := api.Image{Ranges: layout(), Fills: []api.Fill{{At: both, Bytes: assembled(t, "lw r1 r15 20", "sw r1 r15 12", "li r0 1", "li r0 2", "sys 0", "li r0 9")}}, Entry: both}
	m := set(t, made(t, im, ""), 15, both)
	r, e := m.Run(100)
	same(t, "Run", all(r, e, m.Steps()), all(api.Run{End: api.EndExit, Code: 9}, api.OK, 5))
}
