package asm_test

import (
	"bytes"
	"slices"
	"strings"
	"testing"

	"catapult/api"
	"catapult/asm"
)

// 5.2: objects, and their texts written out.
func TestPrintRows(t *testing.T) {
	word := []byte{0, 0, 0, 0}
	for _, x := range []struct {
		what, code string // of text, as mixed has it
		data       []byte
		labels     []api.Label
		relocs     []api.Reloc
		want       string // lines, parted by |
	}{
		{"nothing", "", nil, nil, nil, ".text|.data"},
		{"instructions", "li r1 -5|add r1 r2 r3|jump -1|lui r3 0", nil, nil, nil, ".text|li r1 -5|add r1 r2 r3|jump -1|lui r3 0|.data"},
		{"words that are none", "=0 0 0 0|li r1 1|=255 1 2 3", nil, nil, nil, ".text|.byte 0|.byte 0|.byte 0|.byte 0|li r1 1|.byte 255|.byte 1|.byte 2|.byte 3|.data"},
		{"less than a word", "trap 1|=1 0 0", nil, nil, nil, ".text|trap 1|.byte 1|.byte 0|.byte 0|.data"},
		{"an instruction that is not at its place", "=1 2|trap 1|=7 8", nil, nil, nil, ".text|.byte 1|.byte 2|.byte 1|.byte 0|.byte 0|.byte 42|.byte 7|.byte 8|.data"},
		{"data", "", []byte{1, 0, 0, 42, 255}, nil, nil, ".text|.data|.byte 1|.byte 0|.byte 0|.byte 42|.byte 255"},
		{"labels", "trap 1|trap 2", []byte{9},
			[]api.Label{{Name: "a"}, {Name: "b", Global: true}, {Name: "c", At: 4}, {Name: "d", At: 8, Global: true}, {Name: "e", Section: 1, Global: true}, {Name: "f", Section: 1, At: 1}, {Name: "g", Section: 1, At: 1, Global: true}}, nil,
			".text|a:|.global b|b:|trap 1|c:|trap 2|.global d|d:|.data|.global e|e:|.byte 9|f:|.global g|g:"},
		{"labels of nothing", "", nil, []api.Label{{Name: "a", Global: true}, {Name: "b", Section: 1}}, nil, ".text|.global a|a:|.data|b:"},
		{"a label within an instruction", "trap 1|trap 2|trap 3", nil, []api.Label{{Name: "a", At: 5}}, nil, ".text|trap 1|.byte 2|a:|.byte 0|.byte 0|.byte 42|trap 3|.data"},
		{"a label two bytes on", "trap 1|trap 2", nil, []api.Label{{Name: "a", At: 2}}, nil, ".text|.byte 1|.byte 0|a:|.byte 0|.byte 42|trap 2|.data"},
		{"a label three bytes on", "trap 1|trap 2", nil, []api.Label{{Name: "a", At: 3}}, nil, ".text|.byte 1|.byte 0|.byte 0|a:|.byte 42|trap 2|.data"},
		{"a label behind an instruction", "trap 1|trap 2", nil, []api.Label{{Name: "a", At: 4}}, nil, ".text|trap 1|a:|trap 2|.data"},
		{"a label of data", "trap 1", word, []api.Label{{Name: "a", Section: 1, At: 2}}, nil, ".text|trap 1|.data|.byte 0|.byte 0|a:|.byte 0|.byte 0"},
		{"what waits", "jump 0|call 0|bz r3 0|bnz r10 0|blu r1 r2 0|lui r10 0|ori r9 r10 0|=0 0 0 0", word, nil,
			[]api.Reloc{at(0, 4, "a", 0), at(4, 4, "b", 1), at(8, 5, "c", 10), at(12, 5, "d", 0), at(16, 5, "e", 100), at(20, 2, "f", 0), at(24, 3, "g", 65535), at(28, 1, "h", 0), {Section: 1, Kind: 1, Name: "i", Add: 7}},
			".text|jump a|call b+1|bz r3 c+10|bnz r10 d|blu r1 r2 e+100|lui r10 high f|ori r9 r10 low g+65535|.word h|.data|.word i+7"},
		{"what does not wait", "jump 0|lui r10 0|ori r9 r10 0|=0 0 0 0", word, nil, nil,
			".text|jump 0|lui r10 0|ori r9 r10 0|.byte 0|.byte 0|.byte 0|.byte 0|.data|.byte 0|.byte 0|.byte 0|.byte 0"},
		{"labels about what waits", "jump 0|=0 0 0 0|=1", slices.Concat(word, word), []api.Label{{Name: "a"}, {Name: "b", At: 4}, {Name: "c", At: 8}, {Name: "d", At: 9}, {Name: "e", Section: 1}, {Name: "f", Section: 1, At: 4}, {Name: "g", Section: 1, At: 8}},
			[]api.Reloc{at(0, 4, "a", 0), at(4, 1, "b", 0), {Section: 1, At: 4, Kind: 1, Name: "f", Add: 4}},
			".text|a:|jump a|b:|.word b|c:|.byte 1|d:|.data|e:|.byte 0|.byte 0|.byte 0|.byte 0|f:|.word f+4|g:"},
	} {
		o := api.Object{Text: mixed(t, x.code), Data: x.data, Labels: x.labels, Relocs: x.relocs}
		s, e := asm.Print(o)
		same(t, x.what, all(s, e), all(strings.ReplaceAll(x.want, "|", "\n")+"\n", api.OK))
		back, f := asm.Assemble(s)
		same(t, x.what+", assembled", all(said(back), f), all(said(o), api.Fault{}))
	}
}

// 5.2: a label within a word that waits for an address, of either section.
func TestPrintCut(t *testing.T) {
	for place := range 13 {
		for _, section := range []int{0, 1} {
			for _, kind := range []int{1, 4} {
				if kind == 4 && section == 1 {
					continue
				}
				b := append(make([]byte, 4), mixed(t, map[int]string{1: "=0 0 0 0", 4: "jump 0"}[kind])...)
				o := api.Object{Labels: []api.Label{{Name: "a", Section: section, At: place}}, Relocs: []api.Reloc{{Section: section, At: 4, Kind: kind, Name: "a"}}}
				o.Text, o.Data = append(b, 1, 2, 3, 4), make([]byte, 12)
				want, wrong := plainPrint(o)
				same(t, "cut", wrong == api.ErrState, place > 4 && place < 8)
				s, e := asm.Print(o)
				same(t, all("a label at ", place, " of ", section), all(s, e), all(want, wrong))
			}
		}
	}
}

// exact is an object whose text has as many bytes: lines of 8 and 10 bytes behind the sections' ones, the last of 8 and more.
func exact(size int) api.Object {
	const sections = len(".text\n.data\n")
	var b []byte
	size -= sections
	for ; size%10 != 0; size -= 8 { // .byte 0
		if size%2 == 1 { // .byte 10
			b, size = append(b, 10), size-1
			continue
		}
		b = append(b, 0)
	}
	return api.Object{Data: append(b, bytes.Repeat([]byte{200}, size/10)...)}
}

// 5.2: what stands behind text in its memory is none of it.
func TestPrintEndsWithText(t *testing.T) {
	for cut := range 8 {
		o := api.Object{Text: codeOf(t, "trap 1", "trap 2")[:8-cut]}
		want, _ := plainPrint(o)
		s, e := asm.Print(o)
		same(t, all(cut, " bytes less"), all(s, e), all(want, api.OK))
	}
}

// 5.2: a text may have 1 << 22 bytes, and no more; what is cut is told ahead of that.
func TestPrintLong(t *testing.T) {
	for _, size := range []int{1<<22 - 1, 1 << 22} {
		s, e := asm.Print(exact(size))
		same(t, all("of ", size, " bytes"), all(len(s), e, strings.HasSuffix(s, "\n.byte 200\n")), all(size, api.OK, true))
	}
	for _, o := range []api.Object{exact(1<<22 + 1), exact(1<<22 + 2), {Text: exact(1<<22 + 1).Data}, {Text: make([]byte, 1<<20), Data: make([]byte, 1<<20)}} {
		s, e := asm.Print(o)
		same(t, "too long", all(len(s), e), all(0, api.ErrLong))
	}
	long := exact(1 << 22)
	long.Labels = []api.Label{{Name: "a"}}
	s, e := asm.Print(long)
	same(t, "a label more", all(len(s), e), all(0, api.ErrLong))
	cut := api.Object{Data: append(exact(1<<22).Data, 200, 200)}
	for len(cut.Data)%4 != 0 {
		cut.Data = append(cut.Data, 200)
	}
	cut.Labels, cut.Relocs = []api.Label{{Name: "a", Section: 1, At: len(cut.Data) + 1}}, []api.Reloc{{Section: 1, At: len(cut.Data), Kind: 1, Name: "a"}}
	cut.Data = append(cut.Data, 0, 0, 0, 0)
	s, e = asm.Print(cut)
	same(t, "too long, and cut", all(len(s), e), all(0, api.ErrState))
	cut.Labels[0].Name = "r1"
	s, e = asm.Print(cut)
	same(t, "too long, and cut, and not right", all(len(s), e), all(0, api.ErrShape))
}

// 5.2, 5.5: many objects have the text that the plainest way has, and are assembled of it.
func TestManyPrints(t *testing.T) {
	printed, cut := 0, 0
	for seed := range 6000 {
		c := chance(seed*104729 + 3)
		o := c.object(t)
		want, wrong := plainPrint(o)
		s, e := asm.Print(o)
		if s != want || e != wrong {
			t.Fatalf("object %d: %.400q, %v, want %.400q, %v", seed, s, e, want, wrong)
		}
		if e != api.OK {
			cut++
			continue
		}
		printed++
		back, f := asm.Assemble(s)
		if said(back) != said(o) || f != (api.Fault{}) {
			t.Fatalf("object %d: %.400s, %v, want %.400s", seed, said(back), f, said(o))
		}
	}
	if printed < 3000 || cut < 300 {
		t.Errorf("%d objects are printed, %d are cut", printed, cut)
	}
}

// 5.2: what is printed is told so: no blank at an end, one between two, a line feed behind each.
func TestPrintedBlanks(t *testing.T) {
	s, _ := asm.Print(good(t))
	for _, bad := range []string{"  ", " \n", "\n ", "\n\n", "\t", ";"} {
		same(t, all("there is ", []byte(bad)), strings.Contains(s, bad), false)
	}
	same(t, "a line feed at the end", strings.HasSuffix(s, "\n"), true)
}
