package emu_test

import (
	"bytes"
	"slices"
	"testing"

	"catapult/api"
	"catapult/emu"
	"catapult/isa"
	"catapult/word"
)

// instruction is one that is right, most often with registers and numbers by which something comes of it.
func (c *chance) instruction() api.Instr {
	for {
		x := api.Instr{Op: 1 + c.below(42)}
		if c.below(40) == 0 {
			x.Op = c.of(41, 42)
		}
		d, a, b := c.below(16), c.below(16), c.below(16)
		imm := c.of(0, 1, 2, 3, 4, 5, 7, 8, 12, 16, 31, -1, -2, -3, -4, -6, -8, 100, 4096, 8192, 16384, 32767, -32768, 65535, 40000)
		for _, y := range []api.Instr{{Op: x.Op, D: d, A: a, B: b}, {Op: x.Op, D: d, A: a, Imm: imm}, {Op: x.Op, D: d, Imm: imm}, {Op: x.Op, A: a, Imm: imm}, {Op: x.Op, Imm: imm}, {Op: x.Op, A: a}} {
			if isa.Check(y) == api.OK {
				return y
			}
		}
	}
}

// word is one that is at some edge, or an address that may do, or any.
func (c *chance) word() int {
	switch c.below(3) {
	case 0:
		return cut(c.of(0, 1, 2, 3, 31, 32, 33, 255, 65535, low, low-1, low+1, -1, -2, -3, -7, -32, -255, 1<<16, 0x7fff, 0x8000, 0x80, 0x7f))
	case 1:
		return cut(c.of(text, data, rom, both, top, 16, words) + c.of(0, 0, 0, 1, 2, 3, 4, 8, 60, 64, 508, 512, 1020, 1024, -1, -2, -4))
	}
	return int(c.next())
}

// program is an image of instructions by chance, in a range where they may be stored to, and in text.
func (c *chance) program(t *testing.T) api.Image {
	t.Helper()
	var l []api.Instr
	for range 48 {
		l = append(l, c.instruction())
	}
	b, f := isa.Code(l...)
	same(t, "Code", f, api.Fault{})
	if c.below(4) == 0 {
		b[c.below(len(b))] = byte(c.next())
	}
	im := api.Image{Ranges: layout(), Fills: []api.Fill{{At: text, Bytes: b}, {At: both, Bytes: b}, {At: words - 12, Bytes: b[:12]}}}
	im.Entry = c.of(text, both, both+4*c.below(48), words-12)
	return im
}

// pair is a machine by chance, and what it must be.
func (c *chance) pair(t *testing.T) (*emu.Machine, *plain) {
	t.Helper()
	im := c.program(t)
	input := string(make([]byte, c.below(4))) + "\x80abc\xff"[:c.below(6)]
	m, p := made(t, im, input), plainOf(im, input)
	for n := range p.regs {
		p.regs[n] = c.word()
		set(t, m, n, p.regs[n])
	}
	return m, p
}

// The words: by many programs, each step does what the plainest machine's does.
func TestManyPrograms(t *testing.T) {
	ends, longest := map[int]int{}, 0
	for seed := range 1500 {
		c := chance(seed * 7919)
		m, p := c.pair(t)
		for i := 0; i < 60 && p.end == 0; i++ {
			effect, e := m.Step()
			same(t, all(seed, " effect"), all(effect, e), all(p.step(), api.OK))
			got, want := standing(t, m), p.standing()
			if got != want {
				t.Fatalf("program %d, step %d: %s, want %s", seed, i, got, want)
			}
		}
		if !slices.Equal(bytesOf(t, m), p.all()) {
			t.Fatalf("program %d: other bytes", seed)
		}
		ends[p.end*10000+p.code%1000]++
		longest = max(longest, p.steps)
	}
	for _, end := range []int{0, 20000, 30000, 50020, 50030, 50031, 50032, 50033, 50040} {
		if ends[end] == 0 {
			t.Errorf("no program ended so: %d", end)
		}
	}
	same(t, "the longest", longest, 60)
}

// 4.4: a step writes the registers that its instruction writes, the bytes that its effect tells, the place, and nothing else; one that ends the run nothing.
func TestNothingButTheInstruction(t *testing.T) {
	written := map[int]int{}
	for seed := range 3000 {
		c := chance(seed*104729 + 1)
		m, _ := c.pair(t)
		for range 3 {
			m.Mark()
			regs, place, got := regsOf(t, m), m.Place(), m.Got()
			b, _ := m.Peek(place, 4) // none where nothing can be fetched
			effect, e := m.Step()
			if e != api.OK {
				break
			}
			w, _ := word.From(b)
			x, _ := isa.Decode(w)
			may, _ := isa.Writes(x)
			_, ended := m.Ended()
			if ended {
				may = nil
			}
			now := regsOf(t, m)
			for n := range now {
				if now[n] != regs[n] && !slices.Contains(may, n) {
					t.Fatalf("%v: r%d is written", x, n)
				}
			}
			touched := m.Changed()
			for _, g := range touched {
				if g.From < effect.At || g.From+g.Size > effect.At+effect.Bytes {
					t.Fatalf("%v: %v is written, %v", x, g, effect)
				}
			}
			if ended && (m.Place() != place || m.Got() != got || effect != api.Effect{Pc: place}) {
				t.Fatalf("%v: it has ended, and done something: %v, at %d", x, effect, m.Place())
			}
			if len(touched) > 0 {
				written[x.Op]++
			}
		}
	}
	for _, op := range []int{api.JSw, api.JSh, api.JSb} {
		if written[op] < 10 {
			t.Errorf("operation %d wrote only %d times", op, written[op])
		}
	}
}

// 4.5: a run and one more are a run of both fuels; steps one by one too.
func TestRunsAreJoined(t *testing.T) {
	for seed := range 60 {
		c := chance(seed*31 + 5)
		im := c.program(t)
		if seed%2 == 0 {
			im = imageOf(t, echo()...)
		}
		const input = "xyz"
		for a := range 12 {
			for b := range 12 {
				one, two, three := made(t, im, input), made(t, im, input), made(t, im, input)
				one.Run(3 * a)
				first, e := one.Run(3 * b)
				second, f := two.Run(3*a + 3*b)
				same(t, all(seed, " ", a, " ", b), all(first, e), all(second, f))
				for range 3*a + 3*b {
					three.Step()
				}
				same(t, "a run and one more", standing(t, one), standing(t, two))
				same(t, "steps", standing(t, three), standing(t, two))
				if !slices.Equal(bytesOf(t, one), bytesOf(t, two)) || !slices.Equal(bytesOf(t, three), bytesOf(t, two)) {
					t.Fatalf("%d: %d and %d: other bytes", seed, a, b)
				}
			}
		}
	}
}

// 4.6: what comes of a run hangs on the image, the input and the fuel alone; with more fuel what has ended has ended so, and what is told begins with what was told.
func TestMoreFuel(t *testing.T) {
	for seed := range 300 {
		c := chance(seed*17 + 2)
		im := c.program(t)
		if seed%3 == 0 {
			im = imageOf(t, echo()...)
		}
		input := []byte{byte(c.next()), 2, byte(c.next())}[:c.below(4)]
		var last api.Run
		for fuel := range 40 {
			r, e := emu.Play(im, input, fuel)
			again, f := emu.Play(im, slices.Clone(input), fuel)
			same(t, "once more", all(again, f), all(r, e))
			if last.End != api.EndFuel {
				same(t, "with more fuel", r, last)
			}
			same(t, "begins with what was told", bytes.HasPrefix(r.Out, last.Out), true)
			last = r
		}
	}
}

// 4.1: a clone stands where its machine does, and each goes its own way then.
func TestClones(t *testing.T) {
	for what, m := range standings(t) {
		m.Poke(data, []byte{1, 2, 3})
		m.Mark()
		m.Poke(data+1, []byte{9})
		c := m.Clone()
		same(t, "a clone "+what, standing(t, c), standing(t, m))
		same(t, "its memory "+what, all(c.Ranges(), c.Changed()), all(m.Ranges(), m.Changed()))
		same(t, "its bytes "+what, slices.Equal(bytesOf(t, c), bytesOf(t, m)), true)
		for _, two := range [][2]*emu.Machine{{m, c}, {c, m}} {
			unchanged(t, "the other one "+what, two[1], func() {
				one := two[0]
				one.SetReg(3, 77)
				one.SetPlace(text + 8)
				one.Run(30)
				one.Poke(data, []byte{5, 6, 7, 8})
				one.Mark()
				one.Poke(data+8, []byte{5})
			})
		}
	}
}

// 4.1: clones read the input and tell, apart.
func TestClonesReadAndTellApart(t *testing.T) {
	for n := range 4 {
		m := made(t, imageOf(t, echo()...), "abcd")
		m.Run(2 + 6*n) // n bytes are told
		c := m.Clone()
		d := c.Clone()
		c.Poke(text+24, assembled(t, "sys 3"))         // in place of telling
		d.Poke(text+20, assembled(t, "xori r0 r0 32")) // great letters, not counted
		for range 50 {
			m.Run(1)
			c.Run(1)
			d.Run(1)
		}
		r, _ := m.Ended()
		same(t, all("the machine from ", n), r, api.Run{End: api.EndExit, Code: 4, Out: []byte("abcd")})
		r, _ = c.Ended()
		same(t, all("a clone from ", n), r, api.Run{End: api.EndTrap, Code: 40, Out: []byte("abcd")[:n]})
		r, _ = d.Ended()
		same(t, all("a clone's clone from ", n), r, api.Run{End: api.EndExit, Code: n, Out: append([]byte("abcd")[:n:n], "ABCD"[n:]...)})
	}
}

// filled is an image of a program that tells its input, with data.
func filled(t *testing.T) api.Image {
	t.Helper()
	im := imageOf(t, echo()...)
	im.Fills = append(im.Fills, api.Fill{At: data, Bytes: []byte{1, 2, 3}})
	return im
}

// R4: what was handed in is not written to.
func TestHandedInIsNotWrittenTo(t *testing.T) {
	im, input, poked := filled(t), []byte("abc"), []byte{4, 5, 6}
	m, e := emu.New(im, input)
	same(t, "New", e, api.OK)
	for range 5 {
		m.Poke(data, poked)
		m.Store(data, 4, 0xffffffff)
		m.Poke(text+400, []byte{1})
		m.Run(10)
	}
	emu.Check(im)
	emu.Play(im, input, 100)
	same(t, "what was handed in", all(im, string(input), poked), all(filled(t), "abc", []byte{4, 5, 6}))
}

// R4: what was handed in may be written over afterwards.
func TestHandedInMayBeWrittenOver(t *testing.T) {
	im, input, poked := filled(t), []byte("abc"), []byte{4, 5, 6}
	m, _ := emu.New(im, input)
	m.Poke(data+3, poked)
	clear(im.Ranges)
	for _, f := range im.Fills {
		clear(f.Bytes)
	}
	clear(im.Fills)
	clear(input)
	clear(poked)
	b, e := m.Peek(data, 6)
	same(t, "Peek", all(b, e), all([]byte{1, 2, 3, 4, 5, 6}, api.OK))
	same(t, "Ranges", m.Ranges(), layout())
	r, e := m.Run(100)
	same(t, "Run", all(r, e), all(api.Run{End: api.EndExit, Code: 3, Out: []byte("abc")}, api.OK))
}

// R4: what is answered may be written over and added to, and stays as it is.
func TestAnswersAreNewMemory(t *testing.T) {
	m, _ := emu.New(filled(t), []byte("abc"))
	for _, one := range []*emu.Machine{m.Clone(), m} {
		for i, fuel := range []int{8, 6, 6, 10} {
			want := api.Run{Out: []byte("abc")[:min(i+1, 3)]}
			if i == 3 {
				want.End, want.Code = api.EndExit, 3
			}
			r, _ := one.Run(fuel)
			same(t, "Run", r, want)
			ended, _ := one.Ended()
			same(t, "Ended", ended, want)
			for _, l := range [][]byte{r.Out, ended.Out} {
				clear(l)
				_ = append(l, "zzzz"...)
				clear(l[:cap(l)])
			}
		}
		b, _ := one.Peek(data, 3)
		clear(b)
		again, _ := one.Peek(data, 3)
		same(t, "Peek once more", again, []byte{1, 2, 3})
		one.Poke(data, []byte{9})
		same(t, "an answer, after a poke", again, []byte{1, 2, 3})
	}
}

// R5: two machines of one image are none of each other's.
func TestMachinesApart(t *testing.T) {
	im := imageOf(t, echo()...)
	one, other := made(t, im, "abc"), made(t, im, "abc")
	unchanged(t, "another machine", other, func() {
		one.Run(20)
		one.Poke(text, make([]byte, 100))
		one.SetReg(1, 1)
		one.Run(20)
	})
	r, _ := other.Run(100)
	same(t, "another machine", r, api.Run{End: api.EndExit, Code: 3, Out: []byte("abc")})
}

// P1, R1: a machine that New did not make answers too: it has no memory.
func TestMachineOfNothing(t *testing.T) {
	var m emu.Machine
	same(t, "at first", standing(t, &m), plainOf(api.Image{}, "").standing())
	same(t, "a clone", standing(t, m.Clone()), standing(t, &m))
	effect, e := m.Step()
	r, ended := m.Ended()
	same(t, "Step", all(effect, e, r, ended, m.Steps()), all(api.Effect{}, api.OK, api.Run{End: api.EndTrap, Code: 30}, true, 1))
	r, e = emu.Play(api.Image{}, nil, 10)
	same(t, "Play", all(r, e), all(api.Run{End: api.EndTrap, Code: 30}, api.OK))
}
