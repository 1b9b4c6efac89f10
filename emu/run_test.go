package emu_test

import (
	"math"
	"strings"
	"testing"

	"catapult/api"
	"catapult/emu"
)

// The chapter's examples.
func TestExamplesOfTheChapter(t *testing.T) {
	for _, x := range []struct {
		code  []string
		fuel  int
		want  api.Run
		steps int
	}{
		{[]string{"li r0 65", "sys 2", "li r0 3", "sys 0"}, 100, api.Run{End: api.EndExit, Code: 3, Out: []byte("A")}, 4},
		{[]string{"li r1 0", "div r0 r0 r1"}, 100, api.Run{End: api.EndDivZero}, 2},
		{[]string{"trap 1"}, 100, api.Run{End: api.EndStack}, 1},
		{[]string{"trap 9"}, 100, api.Run{End: api.EndTrap, Code: 1009}, 1},
		{[]string{"lw r0 r1 18"}, 100, api.Run{End: api.EndTrap, Code: 31}, 1},
		{[]string{"jump -1"}, 10, api.Run{End: api.EndFuel}, 10},
		{nil, 100, api.Run{End: api.EndTrap, Code: 30}, 1},
	} {
		b := assembled(t, x.code...)
		im := api.Image{Ranges: []api.Range{of("a", 16, (len(b)+15)/16*16, "wx")}, Fills: []api.Fill{{At: 16, Bytes: b}}, Entry: 16}
		m := made(t, im, "")
		r, e := m.Run(x.fuel)
		same(t, all(x.code), all(r, e), all(x.want, api.OK))
		same(t, all(x.code, " steps"), m.Steps(), x.steps)
		r, e = emu.Play(im, nil, x.fuel)
		same(t, all(x.code, " played"), all(r, e), all(x.want, api.OK))
	}
}

// echo tells its input, each byte once, and ends with how many bytes there were.
func echo() []string {
	return []string{"li r1 0", "li r2 -1", "sys 1", "eq r3 r0 r2", "bnz r3 3", "addi r1 r1 1", "sys 2", "jump -6", "addi r0 r1 0", "sys 0"}
}

// 4.2: a program that reads and tells, to its end, and for each fuel ahead of it.
func TestEcho(t *testing.T) {
	const input = "ab\x00\xff"
	im := imageOf(t, echo()...)
	r, e := emu.Play(im, []byte(input), emu.MaxFuel)
	same(t, "Play", all(r, e), all(api.Run{End: api.EndExit, Code: 4, Out: []byte(input)}, api.OK))
	m := made(t, im, input)
	r, e = m.Run(emu.MaxFuel)
	same(t, "Run", all(r, e), all(api.Run{End: api.EndExit, Code: 4, Out: []byte(input)}, api.OK))
	const steps = 2 + 4*6 + 5
	same(t, "Steps, Got, Place", all(m.Steps(), m.Got(), m.Place()), all(steps, 4, text+36))
	for fuel := range steps + 3 {
		p := plainOf(im, input)
		for i := 0; i < fuel && p.end == 0; i++ {
			p.step()
		}
		r, e := emu.Play(im, []byte(input), fuel)
		same(t, all("Play with fuel ", fuel), all(r, e), all(api.Run{End: p.end, Code: p.code, Out: p.told}, api.OK))
		same(t, "goes on", r.End == api.EndFuel, fuel < steps)
	}
}

// 4.2: fuel that is none; ahead of it, what is wrong with an image or an input.
func TestFuel(t *testing.T) {
	same(t, "MaxFuel", emu.MaxFuel, 1<<22)
	im := imageOf(t, "addi r1 r1 1", "jump -2")
	ended := machineOf(t, "trap 1")
	ended.Run(1)
	for _, fuel := range []int{-1, -2, math.MinInt, emu.MaxFuel + 1, words, words + 1, math.MaxInt} {
		for _, m := range []*emu.Machine{made(t, im, ""), ended} {
			unchanged(t, all("Run ", fuel), m, func() {
				r, e := m.Run(fuel)
				same(t, all("Run ", fuel), all(r, e), all(api.Run{}, api.ErrRange))
			})
		}
		r, e := emu.Play(im, nil, fuel)
		same(t, all("Play ", fuel), all(r, e), all(api.Run{}, api.ErrRange))
		r, e = emu.Play(im, make([]byte, api.MaxText+1), fuel)
		same(t, all("Play of a long input ", fuel), all(r, e), all(api.Run{}, api.ErrLong))
	}
	m := made(t, im, "")
	r, e := m.Run(emu.MaxFuel)
	w, _ := m.Reg(1)
	same(t, "the greatest fuel", all(r, e, m.Steps(), w), all(api.Run{}, api.OK, emu.MaxFuel, emu.MaxFuel/2))
	unchanged(t, "Run 0", m, func() {
		r, e := m.Run(0)
		same(t, "Run 0", all(r, e), all(api.Run{}, api.OK))
	})
	r, e = m.Run(3)
	same(t, "and more", all(r, e, m.Steps(), m.Place()), all(api.Run{}, api.OK, emu.MaxFuel+3, text+4))
}

// ends is programs that end, each by its last instruction, and what comes of them.
func ends() map[string]api.Run {
	return map[string]api.Run{
		"sys 0":                        {End: api.EndExit},
		"li r0 -1;sys 0":               {End: api.EndExit, Code: -1},
		"lui r0 32768;sys 0":           {End: api.EndExit, Code: -1 << 31},
		"lui r0 65535;sys 0":           {End: api.EndExit, Code: -65536},
		"li r0 7;li r1 8;sys 0":        {End: api.EndExit, Code: 7},
		"li r1 5;div r0 r1 r2":         {End: api.EndDivZero},
		"li r0 9;divu r0 r0 r2":        {End: api.EndDivZero},
		"rem r0 r1 r2":                 {End: api.EndDivZero},
		"remu r0 r1 r2":                {End: api.EndDivZero},
		"trap 1":                       {End: api.EndStack},
		"li r0 66;sys 2;trap 1":        {End: api.EndStack, Out: []byte("B")},
		"trap 0":                       {End: api.EndTrap, Code: 1000},
		"trap 2":                       {End: api.EndTrap, Code: 1002},
		"trap 65535":                   {End: api.EndTrap, Code: 66535},
		"sys 3":                        {End: api.EndTrap, Code: 40},
		"li r0 66;sys 2;sys 65535":     {End: api.EndTrap, Code: 40, Out: []byte("B")},
		"lw r1 r0 16384":               {},
		"lw r1 r0 16386":               {End: api.EndTrap, Code: 31},
		"lw r1 r0 -4":                  {},
		"lw r1 r0 12":                  {End: api.EndTrap, Code: 30},
		"lh r1 r0 14":                  {End: api.EndTrap, Code: 30},
		"lh r1 r0 13":                  {End: api.EndTrap, Code: 31},
		"lb r1 r0 15":                  {End: api.EndTrap, Code: 30},
		"lb r1 r0 0":                   {End: api.EndTrap, Code: 30},
		"sw r1 r0 8706":                {End: api.EndTrap, Code: 31},
		"sw r1 r0 8704":                {End: api.EndTrap, Code: 32},
		"sh r1 r0 8704":                {End: api.EndTrap, Code: 32},
		"sh r1 r0 8705":                {End: api.EndTrap, Code: 31},
		"sb r1 r0 8767":                {End: api.EndTrap, Code: 32},
		"sb r1 r0 8768":                {End: api.EndTrap, Code: 30},
		"sb r1 r0 4096":                {End: api.EndTrap, Code: 32},
		"sw r1 r0 12":                  {End: api.EndTrap, Code: 30},
		"reg r0":                       {},
		"li r0 66;sys 2;li r1 2":       {Out: []byte("B")},
		"addi r1 r1 0":                 {},
		"li r0 2;reg r0":               {},
		"lui r0 1;reg r0":              {},
		"li r0 8192;callr r0":          {},
		"jump 8388607":                 {},
		"li r2 16;li r0 -1;sw r0 r2 0": {},
	}
}

// 4.2, and the words: how runs end, by their last step; that one counts, and the place stays.
func TestEnds(t *testing.T) {
	for s, want := range ends() {
		lines := strings.Split(s, ";")
		m := machineOf(t, lines...)
		r, e := m.Run(len(lines) - 1)
		same(t, s+": ahead of its last step", all(r.End, r.Code, e), all(api.EndFuel, 0, api.OK))
		last := text + 4*(len(lines)-1)
		regs, changed := regsOf(t, m), m.Changed()
		effect, e := m.Step()
		r, ended := m.Ended()
		same(t, s+": Ended", all(r, ended), all(want, want.End != api.EndFuel))
		same(t, s+": Steps, and the step", all(m.Steps(), effect.Pc, e), all(len(lines), last, api.OK))
		if want.End == api.EndFuel {
			continue
		}
		same(t, s+": what the last step did", all(effect, m.Place(), regsOf(t, m), m.Changed()), all(api.Effect{Pc: last}, last, regs, changed))
		after := standing(t, m)
		again, e := m.Run(10)
		same(t, s+": Run of one that has ended", all(again, e), all(want, api.OK))
		effect, e = m.Step()
		same(t, s+": Step of one that has ended", all(effect, e), all(api.Effect{}, api.ErrState))
		same(t, s+": stands where it did", standing(t, m), after)
		played, e := emu.Play(imageOf(t, lines...), nil, 100)
		same(t, s+": Play", all(played, e), all(want, api.OK))
	}
}

// The words: words that can not be fetched, or are no instruction; the place stays there.
func TestFetching(t *testing.T) {
	for _, x := range []struct{ place, code int }{
		{text + 1, 31}, {text + 2, 31}, {text + 3, 31}, {1, 31}, {words - 1, 31}, {words - 2, 31}, {rom + 2, 31}, {601, 31},
		{0, 30}, {12, 30}, {32, 30}, {512, 30}, {600, 30}, {text - 4, 30}, {text + 1024, 30}, {rom + 64, 30}, {top - 4, 30}, {1 << 31, 30},
		{data, 33}, {data + 508, 33}, {rom, 33}, {rom + 60, 33},
		{text, 20}, {text + 1020, 20}, {both, 20}, {16, 20}, {28, 20}, {top, 20}, {words - 4, 20},
	} {
		im := api.Image{Ranges: layout(), Entry: x.place}
		m := made(t, im, "")
		effect, e := m.Step()
		r, ended := m.Ended()
		same(t, all("from ", x.place), all(effect, e, r, ended, m.Steps(), m.Place()), all(api.Effect{Pc: x.place}, api.OK, api.Run{End: api.EndTrap, Code: x.code}, true, 1, x.place))
		r, e = emu.Play(im, nil, 7)
		same(t, all("played from ", x.place), all(r, e), all(api.Run{End: api.EndTrap, Code: x.code}, api.OK))
	}
	for _, w := range [][]byte{{0, 0, 0, 0}, {1, 0, 0, 0}, {0, 0, 0, 43}, {0, 0, 0, 0xff}, {0xff, 0xff, 0xff, 0xff}, {1, 0x30, 0x12, 1}, {9, 0, 0, 0x1b}, {32, 0, 0, 22}, {0, 0, 0x10, 0x29}} {
		m := machineOf(t, "addi r1 r1 1", "addi r1 r1 1")
		same(t, "Poke", m.Poke(text+4, w), api.OK)
		r, e := m.Run(9)
		same(t, all("the word ", w), all(r, e, m.Steps(), m.Place(), regsOf(t, m)[1]), all(api.Run{End: api.EndTrap, Code: 20}, api.OK, 2, text+4, 1))
	}
}

// The words: the input is read byte by byte, at its end the word of -1 comes, as often as it is asked for.
func TestReadingTheInput(t *testing.T) {
	m := made(t, imageOf(t, "sys 1", "jump -2"), "\x00A\x7f\x80\xff")
	for i, want := range []uint32{0, 65, 127, 128, 255, words - 1, words - 1, words - 1} {
		set(t, m, 0, 0x12345678)
		same(t, "Got ahead", m.Got(), min(i, 5))
		m.Step()
		same(t, "Reg, Got", all(regsOf(t, m)[0], m.Got()), all(want, min(i+1, 5)))
		m.Step()
	}
	none := machineOf(t, "sys 1")
	none.Step()
	same(t, "without an input", all(regsOf(t, none)[0], none.Got()), all(uint32(words-1), 0))
}

// The words: what is told is the lowest byte of r0 alone.
func TestTelling(t *testing.T) {
	m := machineOf(t, "sys 2", "jump -2")
	var want []byte
	for _, w := range []int{0, 65, 255, 256, 0x1ff, 0x12345678, words - 1, 0x0a00} {
		set(t, m, 0, w)
		m.Step()
		want = append(want, byte(w))
		r, ended := m.Ended()
		same(t, "Ended", all(r, ended), all(api.Run{Out: want}, false))
		same(t, "r0 stays", regsOf(t, m)[0], w)
		r, e := m.Run(1)
		same(t, "Run", all(r, e), all(api.Run{Out: want}, api.OK))
	}
}

// The words: how much may be told.
func TestTellingTooMuch(t *testing.T) {
	same(t, "MaxTold", emu.MaxTold, 1<<16)
	m := machineOf(t, "li r0 88", "sys 2", "jump -2")
	r, e := m.Run(1 + 2*emu.MaxTold)
	same(t, "as much as may be", all(r.End, len(r.Out), e), all(api.EndFuel, emu.MaxTold, api.OK))
	r, e = m.Run(1)
	want := api.Run{End: api.EndTrap, Code: 41, Out: []byte(strings.Repeat("X", emu.MaxTold))}
	same(t, "one more", all(r.End, r.Code, len(r.Out), e), all(want.End, want.Code, len(want.Out), api.OK))
	same(t, "all that was told", string(r.Out) == string(want.Out), true)
	same(t, "Steps, Place", all(m.Steps(), m.Place()), all(2+2*emu.MaxTold, text+4))
	r, ended := m.Ended()
	same(t, "Ended", all(r.End, r.Code, len(r.Out), ended), all(want.End, want.Code, len(want.Out), true))
}

// 4.2: what a step did: its place, and the bytes that it stored.
func TestEffects(t *testing.T) {
	m := set(t, machineOf(t, "sw r1 r2 4", "sh r1 r2 -2", "sb r1 r2 0", "lw r3 r2 4", "sw r1 r2 4", "jump 2", "li r0 0", "li r0 1", "sb r1 r2 -1", "sb r1 r4 -1"), 1, 0x81828384, 2, data+32)
	for i, want := range []api.Effect{
		{Pc: text, At: data + 36, Bytes: 4}, {Pc: text + 4, At: data + 30, Bytes: 2}, {Pc: text + 8, At: data + 32, Bytes: 1}, {Pc: text + 12}, {Pc: text + 16, At: data + 36, Bytes: 4},
		{Pc: text + 20}, {Pc: text + 32, At: data + 31, Bytes: 1}, {Pc: text + 36, At: words - 1, Bytes: 1},
	} {
		effect, e := m.Step()
		same(t, all("step ", i), all(effect, e), all(want, api.OK))
	}
	b, _ := m.Peek(data+28, 12)
	same(t, "what was stored", b, []byte{0, 0, 0x84, 0x84, 0x84, 0, 0, 0, 0x84, 0x83, 0x82, 0x81})
	b, _ = m.Peek(words-4, 4)
	same(t, "what was stored at last", b, []byte{0, 0, 0, 0x84})
}
