package asm_test

import (
	"math"
	"slices"
	"strings"
	"testing"

	"catapult/api"
	"catapult/asm"
)

// 5.5: what texts come to is printed, and assembled again.
func TestThereAndBack(t *testing.T) {
	back := 0
	for seed := range 1500 {
		c := chance(seed*6007 + 1)
		o, f := asm.Assemble(c.text())
		s, e := asm.Print(o)
		if f != (api.Fault{}) || e == api.ErrState {
			continue
		}
		again, g := asm.Assemble(s)
		if len(s) > 1<<20 { // more than Assemble reads
			same(t, "a text that is too long", all(said(again), g), all(said(api.Object{}), api.Fault{Code: api.ErrLong}))
			continue
		}
		if e != api.OK || g != (api.Fault{}) || said(again) != said(o) {
			t.Fatalf("text %d: %v, %v: %.400s, want %.400s", seed, e, g, said(again), said(o))
		}
		twice, _ := asm.Print(again)
		same(t, "printed again", twice, s)
		back++
	}
	if back < 300 {
		t.Errorf("only %d texts went there and back", back)
	}
	o := good(t)
	s, e := asm.Print(o)
	again, f := asm.Assemble(s)
	same(t, "good", all(said(again), f, e), all(said(o), api.Fault{}, api.OK))
}

// 5.6: remarks, blanks and empty lines change nothing but lines' numbers.
func TestRemarksAndBlanks(t *testing.T) {
	right := 0
	for seed := range 1500 {
		c := chance(seed*433 + 9)
		var l, more []string
		for line := range strings.SplitSeq(c.text(), "\n") {
			l = append(l, clean(line))
		}
		number := map[int]int{} // of the lines in more
		for i, line := range l {
			more = append(more, slices.Repeat([]string{of(&c, "", " ", "\t\t", ";", "; a:", " ;\x00")}, c.below(3))...)
			number[i] = len(more)
			more = append(more, c.dressed(line))
		}
		o, f := asm.Assemble(strings.Join(l, "\n"))
		p, g := asm.Assemble(strings.Join(more, "\n") + of(&c, "", "\n", "\n\n"))
		if f != (api.Fault{}) {
			f.At = number[f.At]
		} else if len(o.Text) > 0 {
			right++
		}
		if said(o) != said(p) || f != g {
			t.Fatalf("%.400q: %.400s, %v, and %.400q: %.400s, %v", l, said(o), f, more, said(p), g)
		}
	}
	if right < 300 {
		t.Errorf("only %d texts are right, and of some length", right)
	}
	o := made(t, "\t a: ; a\r\n", "; b:", " li\tr1 \t 5 ;;; li r1 6", "\t;", "jump\ta;jump b")
	same(t, "by hand", said(o), said(made(t, "a:", "li r1 5", "jump a")))
}

// 5.6: the last line may lack its line feed, and there may be none.
func TestLastLine(t *testing.T) {
	for _, text := range []string{"a:\nli r0 0\njump a", "a:", ".data\n.byte 1"} {
		same(t, text, said(made(t, text)), said(made(t, text+"\n")))
		same(t, text, said(made(t, text)), said(made(t, text+"\n\n")))
		same(t, text, said(made(t, asm.Lines(strings.Split(text, "\n")...))), said(made(t, text)))
	}
	same(t, "nothing", said(made(t)), said(api.Object{}))
	same(t, "a line feed", said(made(t, "\n")), said(api.Object{}))
}

// answers is what all calls answer of a text, an object and a number.
func answers(text string, o api.Object, n int) string {
	x, f := asm.Assemble(text)
	s, e := asm.Print(o)
	l, g := asm.Const(n, n)
	j, h := asm.Join(o, x)
	return all(said(x), f, s, e, asm.Check(o), asm.IsSymbol(text), l, g, asm.Lines(text, text), said(j), h)
}

// P1, R1, R5: every call answers, whatever it is handed, and the same in any order.
func TestAnswersHangOnArgumentsAlone(t *testing.T) {
	const calls = 400
	ask := func(seed int) string {
		c := chance(seed*7 + 2)
		o := c.object(t)
		for range c.below(6) {
			c.spoil(&o)
		}
		b := make([]byte, c.below(20))
		for i := range b {
			b[i] = byte(c.next())
		}
		return answers(of(&c, c.text(), string(b), c.line()+string(b)), o, of(&c, math.MinInt, -1, 0, 5, 15, 16, 1<<32, math.MaxInt))
	}
	var there []string
	for seed := range calls {
		there = append(there, ask(seed))
	}
	for seed := calls - 1; seed >= 0; seed-- {
		same(t, "once more", ask(seed), there[seed])
	}
}

// P1: objects of numbers at all edges answer.
func TestEdgesAnswer(t *testing.T) {
	edges := []int{math.MinInt, math.MinInt + 1, -1 << 32, -5, -4, -1, 0, 1, 2, 3, 4, 5, 8, 16, 1 << 20, 1 << 32, math.MaxInt - 3, math.MaxInt}
	for _, section := range edges {
		for _, place := range edges {
			o := api.Object{Text: []byte{0, 0, 0, 37, 0}, Data: make([]byte, 5), Labels: []api.Label{{Name: "a", Section: section, At: place}}}
			same(t, "Check", asm.Check(o) == api.OK, plainRight(o))
			for _, kind := range edges {
				o.Labels, o.Relocs = nil, []api.Reloc{{Section: section, At: place, Kind: kind, Add: kind, Name: "a"}}
				same(t, "Check", asm.Check(o) == api.OK, plainRight(o))
				answers("", o, kind)
			}
		}
	}
}

// R4: what was handed in is not written to, nor what stands behind it in its memory.
func TestHandedInIsNotWrittenTo(t *testing.T) {
	o := good(t)
	roomy := api.Object{Text: append(make([]byte, 0, 100), o.Text...), Data: append(make([]byte, 0, 100), o.Data...),
		Labels: append(make([]api.Label, 0, 100), o.Labels...), Relocs: append(make([]api.Reloc, 0, 100), o.Relocs...)}
	l, lines := []api.Object{roomy, named(o, "x."), named(o, "y.")}, []string{"a", "b", "c"}
	was := []api.Object{copied(o), named(o, "x."), named(o, "y.")}
	asm.Check(roomy)
	asm.Print(roomy)
	asm.Join(l...)
	asm.Join(l[:2]...)
	asm.Lines(lines[:2]...)
	for i := range l {
		same(t, "an object", said(l[i]), said(was[i]))
	}
	same(t, "lines", lines, []string{"a", "b", "c"})
	same(t, "behind text and data", all(roomy.Text[len(o.Text):100], roomy.Data[len(o.Data):100]), all(make([]byte, 100-len(o.Text)), make([]byte, 100-len(o.Data))))
	same(t, "behind labels", all(roomy.Labels[len(o.Labels):100]), all(make([]api.Label, 100-len(o.Labels))))
	same(t, "behind relocations", all(roomy.Relocs[len(o.Relocs):100]), all(make([]api.Reloc, 100-len(o.Relocs))))
}

// wiped writes over all of an object, and behind its lists.
func wiped(o api.Object) {
	for _, b := range [][]byte{o.Text, o.Data} {
		b = b[:cap(b)]
		for i := range b {
			b[i] = 99
		}
	}
	labels, relocs := o.Labels[:cap(o.Labels)], o.Relocs[:cap(o.Relocs)]
	for i := range labels {
		labels[i] = api.Label{Name: "wiped", At: 99}
	}
	for i := range relocs {
		relocs[i] = api.Reloc{Name: "wiped", At: 99}
	}
}

// R4: what was handed in may be written over afterwards, and so may what is answered.
func TestAnswersAreNewMemory(t *testing.T) {
	for range 2 {
		one, two := good(t), named(good(t), "x.")
		for _, l := range [][]api.Object{{one}, {one, two}, {one, {}}, {{}, one}} {
			o := joined(t, l...)
			want, first := said(o), said(one)
			wiped(joined(t, l...))
			same(t, "the first, when the answer is written over", said(one), first)
			handed := make([]api.Object, len(l))
			for i := range l {
				handed[i] = copied(l[i])
			}
			o = joined(t, handed...)
			for _, x := range handed {
				wiped(x)
			}
			same(t, "the answer, when what was handed in is written over", said(o), want)
		}
		o, want := good(t), said(good(t))
		wiped(o)
		same(t, "assembled again", said(good(t)), want)
		code, _ := asm.Const(3, 65537)
		for i := range code {
			code[i] = api.Instr{}
		}
		code, _ = asm.Const(3, 65537)
		same(t, "const again", all(code), all([]api.Instr{{Op: api.JLui, D: 3, Imm: 1}, {Op: api.JOrI, D: 3, A: 3, Imm: 1}}))
	}
}
