package link_test

import (
	"fmt"
	"math"
	"slices"
	"testing"

	"catapult/api"
	"catapult/asm"
	"catapult/emu"
	"catapult/isa"
	"catapult/link"
)

// rightLink is objects, extra ranges and an entry by chance that are linked; false, if they have a fault.
func (c *chance) rightLink(t *testing.T) (api.Image, []api.Range, []api.Object, bool) {
	t.Helper()
	o := []api.Object{c.object(t, "a"), c.object(t, "b"), c.object(t, "c")}
	extra := c.extra()
	x, f := link.Link("a0", extra, o...)
	return x, extra, o, f == api.Fault{}
}

// machine is a machine of an image, at a place.
func machine(t *testing.T, x api.Image, place int) *emu.Machine {
	t.Helper()
	m, e := emu.New(x, nil)
	if e != api.OK {
		t.Fatalf("New: %v", e)
	}
	m.SetPlace(place)
	return m
}

// told is where a word that was put in leads, when it is done or read: an address.
func told(t *testing.T, x api.Image, r api.Reloc, want int) int {
	t.Helper()
	place := x.Ranges[r.Section].From + r.At
	m, w := machine(t, x, place), wordIn(t, x, place)
	if r.Kind == api.RelWord {
		return int(w)
	}
	y, _ := isa.Decode(w)
	switch y.Op {
	case api.JBnz:
		m.SetReg(y.A, 1)
	case api.JBlu:
		m.SetReg(y.A, 1)
	case api.JOrI:
		m.SetReg(y.A, uint32(want>>16<<16))
	}
	m.Step()
	v, _ := m.Reg(y.D)
	back, _ := m.Reg(api.RegLink)
	switch {
	case y.Op == api.JLui:
		return int(v) + want&0xffff
	case y.Op == api.JOrI:
		return int(v)
	case y.Op == api.JCall && int(back) != place+4:
		t.Errorf("the link is %d at %d", back, place)
	}
	return m.Place()
}

// 6.4: what is put in is where the name stands: a word has it, lui and ori leave it, a jump goes there.
func TestPutInIsWhereTheNameStands(t *testing.T) {
	kinds := map[int]int{}
	for seed := range 400 {
		c := chance(seed*613 + 1)
		x, extra, o, ok := c.rightLink(t)
		if !ok {
			continue
		}
		stands := map[string]int{}
		for _, s := range symbolsOf(t, extra, o...) {
			stands[s.Name] = s.At
		}
		for _, r := range joined(t, o...).Relocs {
			want := stands[r.Name] + r.Add
			if got := told(t, x, r, want); got != want {
				t.Fatalf("link %d: %+v leads to %d, want %d", seed, r, got, want)
			}
			kinds[r.Kind]++
		}
	}
	for kind := 1; kind <= 5; kind++ {
		if kinds[kind] < 50 {
			t.Errorf("only %d of kind %d", kinds[kind], kind)
		}
	}
}

// 6.4: la, done, leaves the address, near and far.
func TestLaLeavesTheAddress(t *testing.T) {
	for _, name := range []string{"m", "end", "d", "stack", "stack.end", "far", "far.end", "m+65535", "far.end+65535", "stack+28000", "d+1"} {
		o := made(t, "m:", "la r5 "+name, "end:", ".data", ".word "+name, "d:")
		x := linked(t, "m", rooms(room("stack", 40000), room("far", 900000)), o)
		m := machine(t, x, x.Entry)
		m.Step()
		m.Step()
		v, _ := m.Reg(5)
		same(t, name, v, wordIn(t, x, x.Ranges[1].From))
	}
}

// 6.5: the image is right; its ranges are pairwise apart, and each begins at a multiple of 16 behind what stands ahead.
func TestImagesAreRight(t *testing.T) {
	right := func(x api.Image) {
		t.Helper()
		same(t, "Check", emu.Check(x), api.OK)
		for i, r := range x.Ranges {
			for _, s := range x.Ranges[:i] {
				if s.From+s.Size > r.From || s.Name == r.Name || r.From%16 != 0 || r.Size%16 != 0 {
					t.Errorf("%v and %v", s, r)
				}
			}
		}
	}
	links := 0
	for seed := range 600 {
		c := chance(seed*947 + 2)
		if x, _, _, ok := c.rightLink(t); ok {
			right(x)
			links++
		}
	}
	if links < 100 {
		t.Errorf("only %d are linked", links)
	}
	var extra []api.Range
	for i := range 14 {
		extra = append(extra, room(fmt.Sprint("x", i), 60000+i))
	}
	full := api.Object{Text: make([]byte, 100001), Data: make([]byte, 100003), Labels: []api.Label{{Name: "m", At: 100001}}}
	right(linked(t, "m", extra, full))
	right(linked(t, "m", nil, api.Object{Labels: []api.Label{{Name: "m"}}}))
	right(linked(t, "m", nil, api.Object{Text: make([]byte, 1<<20), Labels: []api.Label{{Name: "m", At: 1 << 20}}}))
	right(linked(t, "m", rooms(room("x", 1<<20-32)), api.Object{Text: make([]byte, 1), Data: make([]byte, 1), Labels: []api.Label{{Name: "m"}}}))
}

// 6.6: nothing but the places of relocations is changed, and of an instruction nothing but its Imm.
func TestNothingElseIsChanged(t *testing.T) {
	places := 0
	for seed := range 600 {
		c := chance(seed*389 + 4)
		x, _, o, ok := c.rightLink(t)
		if !ok {
			continue
		}
		j := joined(t, o...)
		was := [][]byte{j.Text, j.Data}
		same(t, "lengths", all(len(x.Fills), len(x.Fills[0].Bytes), len(x.Fills[1].Bytes)), all(2, len(j.Text), len(j.Data)))
		for _, r := range j.Relocs {
			place := x.Ranges[r.Section].From + r.At
			before := was[r.Section][r.At : r.At+4]
			y, _ := isa.Decode(uint32(before[0]) | uint32(before[1])<<8 | uint32(before[2])<<16 | uint32(before[3])<<24)
			z, _ := isa.Decode(wordIn(t, x, place))
			if z.Imm = 0; r.Kind != api.RelWord && z != y {
				t.Fatalf("%v was %v", z, y)
			}
			copy(before, x.Fills[r.Section].Bytes[r.At:])
			places++
		}
		if !slices.Equal(x.Fills[0].Bytes, j.Text) || !slices.Equal(x.Fills[1].Bytes, j.Data) {
			t.Fatalf("link %d: something else is changed", seed)
		}
	}
	if places < 1000 {
		t.Errorf("only %d places", places)
	}
}

// program is objects that name each other by global labels alone: main, and functions that tell, count, and call those behind them.
func (c *chance) program(t *testing.T, n int) []api.Object {
	t.Helper()
	o := []api.Object{made(t, of(c, ".space 4", ".space 20", ""), ".global main", "main:", "la r13 stack.end", "call f0", "la r1 count", "lw r0 r1 0", "sys 0",
		".data", of(c, ".byte 1", ".space 40", ""), ".align 4", ".global count", "count:", ".word 0")}
	for i := range n {
		name := fmt.Sprint(i)
		text := []string{of(c, ".space 8", ".space 36", ""), ".global f" + name, "f" + name + ":", "addi r13 r13 -4", "sw r14 r13 0",
			"li r2 " + fmt.Sprint(1+c.below(3)), "again" + name + ":", "la r1 own" + name, "lb r0 r1 0", "sys 2", "addi r2 r2 -1", "bnz r2 again" + name,
			"la r1 count", "lw r0 r1 0", "addi r0 r0 1", "sw r0 r1 0"}
		data := []string{".data", of(c, ".space 3", ".space 17", ""), "own" + name + ":", ".byte " + fmt.Sprint('A'+i), ".align 4"}
		for j := i + 1; j < n; j++ {
			other := fmt.Sprint(j)
			switch c.below(3) {
			case 0:
				text = append(text, "call f"+other)
			case 1:
				text = append(text, "la r1 to"+name+other, "lw r1 r1 0", "callr r1")
				data = append(data, "to"+name+other+":", ".word f"+other)
			}
		}
		o = append(o, made(t, append(append(text, "lw r14 r13 0", "addi r13 r13 4", "reg r14"), data...)...))
	}
	return o
}

// orders calls a function with each order of a list.
func orders[T any](l []T, from int, do func(l []T)) {
	if from == len(l) {
		do(l)
	}
	for i := from; i < len(l); i++ {
		l[from], l[i] = l[i], l[from]
		orders(l, from+1, do)
		l[from], l[i] = l[i], l[from]
	}
}

// 6.7: in another order the objects come to the same run.
func TestOrdersComeToTheSameRun(t *testing.T) {
	longest, moved := 0, 0
	for seed := range 60 {
		c := chance(seed*4099 + 6)
		o := c.program(t, 2+c.below(3))
		extra := rooms(room("arena", c.below(100)), room("stack", 256))
		first := linked(t, "main", extra, o...)
		want, e := emu.Play(first, nil, 1<<16)
		if e != api.OK || want.End != api.EndExit || want.Code < 1 || len(want.Out) < want.Code || want.Out[0] != 'A' {
			t.Fatalf("program %d: %v, %v", seed, want, e)
		}
		longest = max(longest, want.Code)
		orders(o, 0, func(l []api.Object) {
			x := linked(t, "main", extra, l...)
			r, e := emu.Play(x, nil, 1<<16)
			same(t, "the run", all(r, e), all(want, api.OK))
			if said(x) != said(first) {
				moved++
			}
		})
	}
	if longest < 5 || moved < 500 {
		t.Errorf("the longest program calls %d times, %d have other images", longest, moved)
	}
}

// copied is objects that share nothing with others.
func copied(l []api.Object) []api.Object {
	var to []api.Object
	for _, o := range l {
		to = append(to, api.Object{Text: slices.Clone(o.Text), Data: slices.Clone(o.Data), Labels: slices.Clone(o.Labels), Relocs: slices.Clone(o.Relocs)})
	}
	return to
}

// wipe writes over all of a list, and behind it in its memory.
func wipe[T any](l []T, with T) {
	l = l[:cap(l)]
	for i := range l {
		l[i] = with
	}
}

// wipeAll writes over objects and ranges.
func wipeAll(extra []api.Range, l []api.Object) {
	for _, o := range l {
		wipe(o.Text, 99)
		wipe(o.Data, 99)
		wipe(o.Labels, api.Label{Name: "wiped", At: 99})
		wipe(o.Relocs, api.Reloc{Name: "wiped", At: 99})
	}
	wipe(l, api.Object{})
	wipe(extra, api.Range{Name: "wiped", Size: 99})
}

// R4: what is handed in is not written to, nor what stands behind it; and may be written over afterwards, and so may what is answered.
func TestOwnMemory(t *testing.T) {
	for seed := range 200 {
		c := chance(seed*5003 + 8)
		x, extra, o, ok := c.rightLink(t)
		if !ok {
			continue
		}
		for _, n := range []int{1, 3} {
			one := []api.Object{made(t, "a0:", "la r1 a0", "jump a0", ".data", "d:", ".word a0")}
			if n == 3 {
				one = o
			}
			image, symbols := said(linked(t, "a0", extra, one...)), all(symbolsOf(t, extra, one...))
			handed, ranges := copied(one), append(make([]api.Range, 0, 20), extra...)
			for i := range handed {
				handed[i].Text = append(make([]byte, 0, len(handed[i].Text)+50), handed[i].Text...)
				handed[i].Data = append(make([]byte, 0, len(handed[i].Data)+50), handed[i].Data...)
			}
			before := all(ranges[:20], len(handed), handed[0].Text[:cap(handed[0].Text)], handed[0].Data[:cap(handed[0].Data)], handed)
			y, l := linked(t, "a0", ranges, handed...), symbolsOf(t, ranges, handed...)
			link.Near(l, 5000)
			same(t, "handed in", all(ranges[:20], len(handed), handed[0].Text[:cap(handed[0].Text)], handed[0].Data[:cap(handed[0].Data)], handed), before)
			wipeAll(ranges, handed)
			same(t, "when it is written over, the image", said(y), image)
			same(t, "and the symbols", all(l), symbols)
		}
		before := all(o, extra)
		wipe(x.Fills[0].Bytes, 99)
		same(t, "another fill", x.Fills[1].Bytes, linked(t, "a0", extra, o...).Fills[1].Bytes)
		wipe(x.Fills[1].Bytes, 98)
		wipe(x.Fills, api.Fill{})
		same(t, "the ranges", x.Ranges, linked(t, "a0", extra, o...).Ranges)
		wipe(x.Ranges, api.Range{})
		wipe(symbolsOf(t, extra, o...), api.Symbol{})
		same(t, "what was handed in, when the answers are written over", all(o, extra), before)
	}
}

// spoil changes something of an object, which may be right then or not.
func (c *chance) spoil(o *api.Object) {
	n := of(c, math.MinInt, -1, 0, 1, 2, 3, 4, 5, 8, 65535, 65536, math.MaxInt-3, math.MaxInt)
	if len(o.Labels) > 0 && c.below(2) == 0 {
		l := &o.Labels[c.below(len(o.Labels))]
		*of(c, &l.Section, &l.At) = n
		return
	}
	if len(o.Relocs) > 0 {
		r := &o.Relocs[c.below(len(o.Relocs))]
		*of(c, &r.Section, &r.At, &r.Kind, &r.Add) = n
	}
}

// answers is what all calls answer, in a row.
func answers(entry string, extra []api.Range, symbols []api.Symbol, at int, o ...api.Object) string {
	x, f := link.Link(entry, extra, o...)
	l, g := link.Symbols(extra, o...)
	name, behind, e := link.Near(symbols, at)
	return all(said(x), f, l, g, name, behind, e)
}

// P1, R1, R5: every call answers, whatever it is handed, and the same in any order.
func TestAnswersHangOnArgumentsAlone(t *testing.T) {
	const calls = 400
	edges := []int{math.MinInt, -1 << 32, -16, -1, 0, 1, 16, 1 << 20, 1 << 32, math.MaxInt - 15, math.MaxInt}
	ask := func(seed int) string {
		c := chance(seed*7 + 2)
		o := []api.Object{c.object(t, "a"), c.object(t, of(&c, "b", "b", "a"))}
		for range c.below(4) {
			c.spoil(&o[c.below(2)])
		}
		extra := append(c.extra(), api.Range{Name: of(&c, "w", "", "\xff"), From: of(&c, 0, 0, of(&c, edges...)), Size: of(&c, 0, 100, of(&c, edges...))})
		symbols := []api.Symbol{{Name: "a", At: of(&c, edges...)}, {Name: "b", At: of(&c, edges...)}}
		return answers(of(&c, "a0", "b0", "", "\x00"), extra, symbols, of(&c, edges...), o...)
	}
	var there []string
	for seed := range calls {
		there = append(there, ask(seed))
	}
	for seed := calls - 1; seed >= 0; seed-- {
		if again := ask(seed); again != there[seed] {
			t.Fatalf("call %d: %.400s, was %.400s", seed, again, there[seed])
		}
	}
}

// The given layers are as these tests take them: an address is put in where noughts were.
func TestWhatWaitsHasNoughts(t *testing.T) {
	o := made(t, "m:", "jump m", "la r1 m", "bz r1 m", ".word m")
	same(t, "Check", asm.Check(o), api.OK)
	o.Text[0] = 1
	faulty(t, "a jump that goes somewhere already", api.Fault{Code: api.ErrShape}, true, "m", nil, o)
}
