package emu_test

import (
	"fmt"
	"slices"
	"strings"
	"testing"

	"catapult/api"
	"catapult/emu"
	"catapult/isa"
)

// What the document's chapter says, reckoned apart from the program, in the plainest way: whole numbers from 0 to words - 1, and a number for each address.

const words = 1 << 32

// of is a range; how: w, if it may be written, x, if it may be run.
func of(name string, from, size int, how string) api.Range {
	return api.Range{Name: name, From: from, Size: size, Write: strings.Contains(how, "w"), Exec: strings.Contains(how, "x")}
}

// Where the ranges of these tests stand.
const (
	text = 4096
	data = 8192
	rom  = 8704
	both = 16384
	top  = words - 64
)

// layout is ranges of all ways, in no order: data and rom touch, one is empty, one ends at the end.
func layout() []api.Range {
	return []api.Range{
		of("data", data, 512, "w"),
		of("text", text, 1024, "x"),
		of("low", 16, 16, "wx"),
		of("empty", 512, 0, "wx"),
		of("rom", rom, 64, ""),
		of("both", both, 4096, "wx"),
		of("top", top, 64, "wx"),
	}
}

// assembled is the bytes of instructions' texts.
func assembled(t *testing.T, lines ...string) []byte {
	t.Helper()
	var l []api.Instr
	for _, s := range lines {
		x, e := isa.Parse(s)
		if e != api.OK {
			t.Fatalf("%s: %v", s, e)
		}
		l = append(l, x)
	}
	b, f := isa.Code(l...)
	if f != (api.Fault{}) {
		t.Fatalf("%v: %v", lines, f)
	}
	return b
}

// imageOf is an image whose run begins with these instructions, in the range text.
func imageOf(t *testing.T, lines ...string) api.Image {
	t.Helper()
	return api.Image{Ranges: layout(), Fills: []api.Fill{{At: text, Bytes: assembled(t, lines...)}}, Entry: text}
}

// made is a machine of an image that is right.
func made(t *testing.T, x api.Image, input string) *emu.Machine {
	t.Helper()
	m, e := emu.New(x, []byte(input))
	if e != api.OK || m == nil {
		t.Fatalf("New: %v", e)
	}
	return m
}

// machineOf is a machine that begins with these instructions.
func machineOf(t *testing.T, lines ...string) *emu.Machine {
	t.Helper()
	return made(t, imageOf(t, lines...), "")
}

// set sets registers: a number, a word, a number, a word ..
func set(t *testing.T, m *emu.Machine, l ...int) *emu.Machine {
	t.Helper()
	for i := 0; i < len(l); i += 2 {
		same(t, "SetReg", m.SetReg(l[i], uint32(l[i+1])), api.OK)
	}
	return m
}

// at sets the place.
func at(t *testing.T, m *emu.Machine, place int) *emu.Machine {
	t.Helper()
	same(t, "SetPlace", m.SetPlace(place), api.OK)
	return m
}

// same fails where an answer is another one than what is wanted (an empty list is as none).
func same(t *testing.T, what string, got, want any) {
	t.Helper()
	if g, w := fmt.Sprint(got), fmt.Sprint(want); g != w {
		t.Errorf("%s: %.300s, want %.300s", what, g, w)
	}
}

// all is what a call answers, in a row.
func all(l ...any) string { return fmt.Sprint(l...) }

// regsOf is all registers.
func regsOf(t *testing.T, m *emu.Machine) [16]uint32 {
	t.Helper()
	var l [16]uint32
	for n := range l {
		w, e := m.Reg(n)
		same(t, "Reg", e, api.OK)
		l[n] = w
	}
	return l
}

// bytesOf is all bytes of the memory, range by range.
func bytesOf(t *testing.T, m *emu.Machine) []byte {
	t.Helper()
	var l []byte
	for _, r := range m.Ranges() {
		b, e := m.Peek(r.From%words, r.Size)
		if len(b) != r.Size || e != api.OK {
			t.Fatalf("Peek of all of %v: %d bytes, %v", r, len(b), e)
		}
		l = append(l, b...)
	}
	return l
}

// standing is all that is told of a machine, but its memory's bytes.
func standing(t *testing.T, m *emu.Machine) string {
	t.Helper()
	r, ended := m.Ended()
	return fmt.Sprintln("regs", regsOf(t, m), "place", m.Place(), "steps", m.Steps(), "got", m.Got(), "run", r, ended)
}

// unchanged calls f, and fails if anything of the machine is another one then.
func unchanged(t *testing.T, what string, m *emu.Machine, f func()) {
	t.Helper()
	was, bytes, gaps := standing(t, m), bytesOf(t, m), m.Changed()
	f()
	same(t, what+": where it stands", standing(t, m), was)
	if !slices.Equal(bytes, bytesOf(t, m)) || !slices.Equal(gaps, m.Changed()) {
		t.Errorf("%s: the memory is changed", what)
	}
}

// plain is a machine in the plainest way.
type plain struct {
	ranges                 []api.Range
	bytes                  map[int]byte
	regs                   [16]int
	place, steps, got      int
	end, code              int
	input, told            []byte
	next, storedAt, stored int // of the step that is made
}

func plainOf(x api.Image, input string) *plain {
	p := &plain{ranges: x.Ranges, bytes: map[int]byte{}, place: x.Entry, input: []byte(input)}
	for _, f := range x.Fills {
		for i, c := range f.Bytes {
			p.bytes[f.At+i] = c
		}
	}
	return p
}

// standing is what is told of it, as of a machine.
func (p *plain) standing() string {
	var regs [16]uint32
	for i, n := range p.regs {
		regs[i] = uint32(n)
	}
	return fmt.Sprintln("regs", regs, "place", p.place, "steps", p.steps, "got", p.got, "run", api.Run{End: p.end, Code: p.code, Out: p.told}, p.end != 0)
}

// all is all bytes of its memory, range by range.
func (p *plain) all() []byte {
	var l []byte
	for _, r := range p.ranges {
		for i := range r.Size {
			l = append(l, p.bytes[r.From+i])
		}
	}
	return l
}

// cut is a number modulo words.
func cut(n int) int { return (n%words + words) % words }

// number is the number of a word of so many bits.
func number(w, bits int) int {
	w %= 1 << bits
	if w >= 1<<(bits-1) {
		w -= 1 << bits
	}
	return w
}

func (p *plain) stop(end, code int) { p.end, p.code = end, code }

// access is how an access of n bytes is refused.
func (p *plain) access(at, n int, may func(api.Range) bool, not int) int {
	if at%n != 0 {
		return 31
	}
	for _, r := range p.ranges {
		if r.From <= at && at+n <= r.From+r.Size {
			if may(r) {
				return 0
			}
			return not
		}
	}
	return 30
}

func (p *plain) word(at, n int) int {
	w := 0
	for i := n - 1; i >= 0; i-- {
		w = w*256 + int(p.bytes[at+i])
	}
	return w
}

// step makes a step, and tells what it did.
func (p *plain) step() api.Effect {
	at := p.place
	p.steps++
	p.next, p.storedAt, p.stored = cut(at+4), 0, 0
	if e := p.access(at, 4, func(r api.Range) bool { return r.Exec }, 33); e != 0 {
		p.stop(5, e)
	} else if x, e := isa.Decode(uint32(p.word(at, 4))); e != api.OK {
		p.stop(5, 20)
	} else {
		p.do(x)
	}
	if p.end == 0 {
		p.place = p.next
	}
	return api.Effect{Pc: at, At: p.storedAt, Bytes: p.stored}
}

func (p *plain) do(x api.Instr) {
	a, b, to := p.regs[x.A], p.regs[x.B], cut(p.next+4*x.Imm)
	switch x.Op {
	case 4, 5, 6, 7:
		p.divide(x, a, b)
	case 28:
		p.load(x.D, cut(a+x.Imm), 4)
	case 29:
		p.load(x.D, cut(a+x.Imm), 2)
	case 30:
		p.load(x.D, cut(a+x.Imm), 1)
	case 31:
		p.store(x.D, cut(a+x.Imm), 4)
	case 32:
		p.store(x.D, cut(a+x.Imm), 2)
	case 33:
		p.store(x.D, cut(a+x.Imm), 1)
	case 34:
		p.goIf(a == 0, to)
	case 35:
		p.goIf(a != 0, to)
	case 36:
		p.goIf(p.regs[x.D] < a, to)
	case 37:
		p.next = to
	case 38:
		p.regs[14], p.next = p.next, to
	case 39:
		p.next = a
	case 40:
		p.regs[14], p.next = p.next, a
	case 41:
		p.world(x.Imm)
	case 42:
		if x.Imm == 1 {
			p.stop(3, 0)
		} else {
			p.stop(5, 1000+x.Imm)
		}
	default:
		p.regs[x.D] = cut(reckoned(x, a, b))
	}
}

func (p *plain) goIf(holds bool, to int) {
	if holds {
		p.next = to
	}
}

func (p *plain) divide(x api.Instr, a, b int) {
	if b == 0 {
		p.stop(2, 0)
		return
	}
	if x.Op == 4 || x.Op == 6 {
		a, b = number(a, 32), number(b, 32)
	}
	if x.Op < 6 {
		p.regs[x.D] = cut(a / b)
	} else {
		p.regs[x.D] = cut(a % b)
	}
}

func (p *plain) load(d, at, n int) {
	if e := p.access(at, n, func(api.Range) bool { return true }, 0); e != 0 {
		p.stop(5, e)
		return
	}
	p.regs[d] = cut(number(p.word(at, n), 8*n))
}

func (p *plain) store(d, at, n int) {
	if e := p.access(at, n, func(r api.Range) bool { return r.Write }, 32); e != 0 {
		p.stop(5, e)
		return
	}
	for i, w := 0, p.regs[d]; i < n; i, w = i+1, w/256 {
		p.bytes[at+i] = byte(w % 256)
	}
	p.storedAt, p.stored = at, n
}

func (p *plain) world(call int) {
	switch {
	case call == 0:
		p.stop(1, number(p.regs[0], 32))
	case call == 1 && p.got < len(p.input):
		p.regs[0] = int(p.input[p.got])
		p.got++
	case call == 1:
		p.regs[0] = words - 1
	case call == 2 && len(p.told) < 65536:
		p.told = append(p.told, byte(p.regs[0]%256))
	case call == 2:
		p.stop(5, 41)
	default:
		p.stop(5, 40)
	}
}

// reckoned is what the operations make of two registers and Imm that do nothing else.
func reckoned(x api.Instr, a, b int) int {
	if x.Op >= 18 {
		b = cut(x.Imm)
	}
	switch x.Op {
	case 1, 18:
		return a + b
	case 2:
		return a - b
	case 3:
		return cut(a*(b/65536))*65536 + a*(b%65536)
	case 8, 19:
		return bitwise(a, b, func(i, j int) bool { return i+j == 2 })
	case 9, 20:
		return bitwise(a, b, func(i, j int) bool { return i+j > 0 })
	case 10, 21:
		return bitwise(a, b, func(i, j int) bool { return i != j })
	case 11, 22:
		return a * power(b%32)
	case 12, 23:
		return (number(a, 32) - cut(a)%power(b%32)) / power(b%32)
	case 13, 24:
		return a / power(b%32)
	case 14:
		return one(number(a, 32) < number(b, 32))
	case 15:
		return one(a < b)
	case 16:
		return one(a == b)
	case 17:
		return one(a != b)
	case 25:
		return x.Imm
	case 26:
		return x.Imm * 65536
	}
	return number(a, x.Imm) // 27
}

func power(n int) int { return 1 << n }

func one(holds bool) int {
	if holds {
		return 1
	}
	return 0
}

func bitwise(a, b int, f func(i, j int) bool) int {
	n := 0
	for i := range 32 {
		n += one(f(a/power(i)%2, b/power(i)%2)) * power(i)
	}
	return n
}

// chance is numbers that look like chance, and are always the same.
type chance uint32

func (c *chance) next() uint32 {
	*c = *c*1664525 + 1013904223
	return uint32(*c) ^ uint32(*c)>>16
}

// below is a number from 0 to n - 1.
func (c *chance) below(n int) int { return int(c.next()>>3) % n }

// one of numbers.
func (c *chance) of(l ...int) int { return l[c.below(len(l))] }
