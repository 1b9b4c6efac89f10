package emu_test

import (
	"math"
	"slices"
	"testing"

	"catapult/api"
	"catapult/emu"
)

// standings is machines that stand at the beginning, somewhere, at an end of each kind, and one that New did not make.
func standings(t *testing.T) map[string]*emu.Machine {
	t.Helper()
	l := map[string]*emu.Machine{"at the beginning": made(t, imageOf(t, echo()...), "abc"), "that New did not make": {}}
	l["somewhere"] = made(t, imageOf(t, echo()...), "abc")
	l["somewhere"].Run(12)
	for what, lines := range map[string][]string{
		"at its exit": echo(), "at a division": {"div r0 r0 r0"}, "at a stack's limit": {"trap 1"}, "at a trap": {"li r0 65", "sys 2", "trap 9"}, "at what is refused": {"li r1 5", "sw r1 r1 8192"}, "at what is none": {"addi r1 r1 1"},
	} {
		l[what] = made(t, imageOf(t, lines...), "abc")
		l[what].Run(100)
		_, ended := l[what].Ended()
		same(t, what, ended, true)
	}
	return l
}

// 4.3: registers.
func TestRegisters(t *testing.T) {
	for what, m := range standings(t) {
		for n := range 16 {
			want := regsOf(t, m)
			for _, v := range []uint32{1, 0, 0xdeadbeef, 1<<32 - 1, uint32(n) + 100} {
				same(t, "SetReg "+what, m.SetReg(n, v), api.OK)
				want[n] = v
				same(t, "registers "+what, regsOf(t, m), want)
			}
		}
		for _, n := range []int{-1, -16, 16, 17, 31, 256, words, words + 3, -words, math.MinInt, math.MaxInt} {
			unchanged(t, all("register ", n, " ", what), m, func() {
				w, e := m.Reg(n)
				same(t, all("Reg ", n, " ", what), all(w, e), all(0, api.ErrRange))
				same(t, all("SetReg ", n, " ", what), m.SetReg(n, 1), api.ErrRange)
			})
		}
	}
}

// 4.3: the place; one that has ended does not go on, wherever it is set.
func TestPlaces(t *testing.T) {
	for what, m := range standings(t) {
		was, ended := m.Ended()
		for _, place := range []int{0, 1, 16, text, text + 8, data + 3, low, words - 4, words - 1, text + 36} {
			same(t, "SetPlace "+what, m.SetPlace(place), api.OK)
			is, still := m.Ended()
			same(t, "SetPlace "+what, all(m.Place(), is, still), all(place, was, ended))
		}
		for _, place := range []int{-1, -4, -words + text, math.MinInt, words, words + text, math.MaxInt} {
			unchanged(t, all("SetPlace ", place, " ", what), m, func() {
				same(t, all("SetPlace ", place, " ", what), m.SetPlace(place), api.ErrRange)
			})
		}
		if ended {
			effect, e := m.Step()
			same(t, "Step "+what, all(effect, e), all(api.Effect{}, api.ErrState))
		}
	}
	m := at(t, machineOf(t, "trap 1", "li r0 4", "sys 0"), text+4)
	r, e := m.Run(5)
	same(t, "from where it was set", all(r, e), all(api.Run{End: api.EndExit, Code: 4}, api.OK))
}

// 4.3: what is peeked and poked is as mem reads and fills it: all ranges, whatever they may.
func TestPeekAndPoke(t *testing.T) {
	for what, m := range standings(t) {
		if what == "that New did not make" {
			continue
		}
		for _, at := range []int{16, 31, text, text + 1001, data + 1, data + 508, rom, rom + 61, both + 4000, top, words - 1} {
			n := 3
			if at == words-1 || at == 31 {
				n = 1
			}
			b := []byte{7, 8, 9}[:n]
			same(t, all("Poke ", at, " ", what), m.Poke(at, b), api.OK)
			is, e := m.Peek(at, n)
			same(t, all("Peek ", at, " ", what), all(is, e), all(b, api.OK))
			same(t, "Poke of other bytes", m.Poke(at, []byte{0xab}), api.OK)
			is, e = m.Peek(at, n)
			same(t, all("Peek ", at, " ", what), all(is, e), all(append([]byte{0xab}, b[1:]...), api.OK))
			unchanged(t, "no bytes", m, func() { same(t, "Poke of none", m.Poke(at, nil), api.OK) })
		}
	}
}

// 4.3: what can not be peeked or poked; an address that is none comes first.
func TestWrongPeeksAndPokes(t *testing.T) {
	for what, m := range standings(t) {
		for _, at := range []int{-1, -16, text - words, math.MinInt, words, words + text, 2 * words, math.MaxInt} {
			for _, n := range []int{0, 1, 4, -1, math.MinInt, 1<<24 + 1, math.MaxInt} {
				peeks(t, what, m, at, n, api.ErrRange)
				if 0 <= n && n < 1<<25 {
					pokes(t, what, m, at, n, api.ErrRange)
				}
			}
		}
		for _, at := range []int{0, 15, 32, 512, text - 1, text + 1024, rom + 64, top - 1} {
			peeks(t, what, m, at, 0, api.OK)
			pokes(t, what, m, at, 0, api.OK)
			for _, n := range []int{1, 2, 17, 1 << 24} {
				peeks(t, what, m, at, n, api.ErrBad)
				pokes(t, what, m, at, n, api.ErrBad)
			}
		}
		for _, at := range []int{0, text, words - 1} {
			peeks(t, what, m, at, -1, api.ErrRange)
			peeks(t, what, m, at, math.MinInt, api.ErrRange)
			peeks(t, what, m, at, 1<<24+1, api.ErrLong)
			peeks(t, what, m, at, math.MaxInt, api.ErrLong)
			pokes(t, what, m, at, 1<<24+1, api.ErrLong)
		}
		for at, n := range map[int]int{text: 1025, data: 513, rom + 63: 2, words - 1: 2, top: 65, 16: 17} {
			peeks(t, what, m, at, n, api.ErrBad)
			pokes(t, what, m, at, n, api.ErrBad)
		}
	}
}

// peeks fails where a Peek of nothing answers otherwise.
func peeks(t *testing.T, what string, m *emu.Machine, at, n int, want api.Errno) {
	t.Helper()
	b, e := m.Peek(at, n)
	same(t, all("Peek ", at, " ", n, " ", what), all(b, e), all([]byte{}, want))
}

// pokes fails where a Poke that changes nothing answers otherwise, or changes something.
func pokes(t *testing.T, what string, m *emu.Machine, at, n int, want api.Errno) {
	t.Helper()
	was := m.Changed()
	same(t, all("Poke ", at, " ", n, " ", what), m.Poke(at, slices.Repeat([]byte{0x5a}, n)), want)
	same(t, all("Changed ", at, " ", n, " ", what), m.Changed(), was)
}

// 4.3: how many steps there were, over runs and steps.
func TestStepsAreCounted(t *testing.T) {
	m := machineOf(t, "addi r1 r1 1", "jump -2")
	same(t, "at first", m.Steps(), 0)
	m.Step()
	same(t, "a step", m.Steps(), 1)
	m.Run(7)
	same(t, "and a run", all(m.Steps(), m.Place()), all(8, text))
	m.SetPlace(text + 4)
	m.SetReg(1, 9)
	m.Poke(text+8, assembled(t, "trap 2"))
	same(t, "what is set is no step", m.Steps(), 8)
	m.Poke(text+4, assembled(t, "jump 0"))
	r, e := m.Run(1000)
	same(t, "at the end", all(r, e, m.Steps(), m.Place()), all(api.Run{End: api.EndTrap, Code: 1002}, api.OK, 10, text+8))
}

// The words of the ways: the memory's methods are the machine's; its mark stands behind the fills.
func TestMemoryOfTheMachine(t *testing.T) {
	m := set(t, machineOf(t, "sw r1 r2 0", "sys 0"), 1, 0x01020304, 2, data)
	same(t, "Ranges", m.Ranges(), layout())
	same(t, "Changed at first", m.Changed(), []api.Gap{})
	m.Run(5)
	same(t, "Changed", m.Changed(), []api.Gap{{From: data, Size: 4}})
	w, e := m.Load(data+2, 2)
	same(t, "Load", all(w, e), all(0x0102, api.OK))
	name, from, e := m.Of(data + 2)
	same(t, "Of", all(name, from, e), all("data", 2, api.OK))
	c := m.Clone()
	m.Mark()
	same(t, "marked", all(m.Changed(), c.Changed()), all([]api.Gap{}, []api.Gap{{From: data, Size: 4}}))
}
