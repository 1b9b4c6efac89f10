package asm_test

import (
	"strings"
	"testing"

	"catapult/api"
	"catapult/asm"
)

// The chapter's examples.
func TestExamplesOfTheChapter(t *testing.T) {
	o, f := asm.Assemble(asm.Lines("a:", "li r0 1", "jump a"))
	same(t, "a: li r0 1, jump a", all(said(o), f), all(said(api.Object{
		Text:   codeOf(t, "li r0 1", "jump 0"),
		Labels: []api.Label{{Name: "a"}},
		Relocs: []api.Reloc{{At: 4, Kind: api.RelJump, Name: "a"}},
	}), api.Fault{}))
	for line, code := range map[string][]string{
		"const r1 65536": {"lui r1 1"},
		"const r1 -1":    {"li r1 -1"},
		"const r1 40000": {"lui r1 0", "ori r1 r1 40000"},
	} {
		same(t, line, said(made(t, line)), said(api.Object{Text: codeOf(t, code...)}))
	}
}

// at is a relocation in text.
func at(place, kind int, name string, add int) api.Reloc {
	return api.Reloc{At: place, Kind: kind, Name: name, Add: add}
}

// longest is a symbol of as many bytes as one may have.
var longest = "x" + strings.Repeat("9", 62)

// 5.1: lines of all forms, and what they leave in text.
func TestLinesInText(t *testing.T) {
	for _, x := range []struct {
		lines  string // parted by |
		code   string
		relocs []api.Reloc
	}{
		{"", "", nil},
		{".text", "", nil},
		{"add r1 r2 r3|sw r14 r13 -4|trap 1", "add r1 r2 r3|sw r14 r13 -4|trap 1", nil},
		{"jump -1|call 5|bz r1 -3|bnz r2 0|blu r3 r4 7|lui r5 0|ori r6 r7 65535", "jump -1|call 5|bz r1 -3|bnz r2 0|blu r3 r4 7|lui r5 0|ori r6 r7 65535", nil},
		{"jump a", "jump 0", []api.Reloc{at(0, 4, "a", 0)}},
		{"call f.main$1+8", "call 0", []api.Reloc{at(0, 4, "f.main$1", 8)}},
		{"bz r15 a+1", "bz r15 0", []api.Reloc{at(0, 5, "a", 1)}},
		{"bnz r0 _+65535", "bnz r0 0", []api.Reloc{at(0, 5, "_", 65535)}},
		{"blu r1 r2 .x", "blu r1 r2 0", []api.Reloc{at(0, 5, ".x", 0)}},
		{"lui r3 high $", "lui r3 0", []api.Reloc{at(0, 2, "$", 0)}},
		{"lui r10 high a+10", "lui r10 0", []api.Reloc{at(0, 2, "a", 10)}},
		{"ori r3 r4 low Z9+7", "ori r3 r4 0", []api.Reloc{at(0, 3, "Z9", 7)}},
		{"la r9 a+4", "lui r9 0|ori r9 r9 0", []api.Reloc{at(0, 2, "a", 4), at(4, 3, "a", 4)}},
		{"la r0 " + longest, "lui r0 0|ori r0 r0 0", []api.Reloc{at(0, 2, longest, 0), at(4, 3, longest, 0)}},
		{"li r1 1|bz r1 a|la r2 b|call a|.word c|jump a", "li r1 1|bz r1 0|lui r2 0|ori r2 r2 0|call 0|=0 0 0 0|jump 0", []api.Reloc{at(4, 5, "a", 0), at(8, 2, "b", 0), at(12, 3, "b", 0), at(16, 4, "a", 0), at(20, 1, "c", 0), at(24, 4, "a", 0)}},
		{"const r4 0", "li r4 0", nil},
		{"const r4 32767|const r4 -32768", "li r4 32767|li r4 -32768", nil},
		{"const r4 32768", "lui r4 0|ori r4 r4 32768", nil},
		{"const r4 -32769", "lui r4 65535|ori r4 r4 32767", nil},
		{"const r15 -2147483648", "lui r15 32768", nil},
		{"const r15 2147483648", "lui r15 32768", nil},
		{"const r0 4294967295", "lui r0 65535|ori r0 r0 65535", nil},
		{"const r0 4294901760", "lui r0 65535", nil},
		{"const r0 305419896", "lui r0 4660|ori r0 r0 22136", nil},
		{".byte 1 2 3|.align 4|li r0 0", "=1 2 3 0|li r0 0", nil},
		{"li r0 0|.space 4|li r0 0", "li r0 0|=0 0 0 0|li r0 0", nil},
	} {
		o := made(t, strings.Split(x.lines, "|")...)
		same(t, x.lines, said(o), said(api.Object{Text: mixed(t, x.code), Relocs: x.relocs}))
	}
}

// mixed is bytes of instructions and, behind a =, of numbers, parted by |.
func mixed(t *testing.T, code string) []byte {
	t.Helper()
	var l []byte
	for _, s := range strings.Split(code, "|") {
		if numbers, ok := strings.CutPrefix(s, "="); ok {
			for _, n := range strings.Fields(numbers) {
				b := 0
				for _, c := range n {
					b = b*10 + int(c-'0')
				}
				l = append(l, byte(b))
			}
		} else if s != "" {
			l = append(l, codeOf(t, s)...)
		}
	}
	return l
}

// 5.1: lines that may stand in either section, and what bytes they leave.
func TestLinesInBoth(t *testing.T) {
	for lines, want := range map[string]string{
		".byte 0":           "=0",
		".byte 255 0 1":     "=255 0 1",
		".byte 1|.byte 2 3": "=1 2 3",
		".byte 0 1 2 3 4 5 6 7 8 9 10 11 12 13 14 15": "=0 1 2 3 4 5 6 7 8 9 10 11 12 13 14 15",
		".word 0":                  "=0 0 0 0",
		".word 67305985":           "=1 2 3 4",
		".word 4294967295":         "=255 255 255 255",
		".word -1":                 "=255 255 255 255",
		".word -2147483648":        "=0 0 0 128",
		".word 2147483648":         "=0 0 0 128",
		".byte 9|.word -2":         "=9 254 255 255 255",
		".space 0":                 "",
		".space 3|.byte 1":         "=0 0 0 1",
		".align 1|.align 16":       "",
		".byte 7|.align 1":         "=7",
		".byte 7|.align 2":         "=7 0",
		".byte 7|.align 4":         "=7 0 0 0",
		".byte 7|.align 8":         "=7 0 0 0 0 0 0 0",
		".byte 7|.align 16":        "=7 0 0 0 0 0 0 0 0 0 0 0 0 0 0 0",
		".byte 1 2|.align 2":       "=1 2",
		".byte 1 2 3|.align 2":     "=1 2 3 0",
		".space 16|.align 16":      "=0 0 0 0 0 0 0 0 0 0 0 0 0 0 0 0",
		".byte 1 2 3 4 5|.align 4": "=1 2 3 4 5 0 0 0",
	} {
		l := strings.Split(lines, "|")
		same(t, lines, said(made(t, l...)), said(api.Object{Text: mixed(t, want)}))
		same(t, lines+", of data", said(made(t, append([]string{".data"}, l...)...)), said(api.Object{Data: mixed(t, want)}))
	}
	same(t, ".space 65536", said(made(t, ".space 65536", ".data", ".space 65535")), said(api.Object{Text: make([]byte, 65536), Data: make([]byte, 65535)}))
}

// 5.1: labels of both sections, in order; a place may have several, and the end some.
func TestLabels(t *testing.T) {
	o := made(t, ".data", "d0:", ".byte 1", "d1:", ".text", "t0:", "li r0 0", "t1:", "t2:", ".data", "d2:", ".byte 2", ".align 8", "d3:", ".word t1+4", ".text", "t3:", "jump d0", "t4:")
	same(t, "labels of both", said(o), said(api.Object{
		Text: codeOf(t, "li r0 0", "jump 0"),
		Data: []byte{1, 2, 0, 0, 0, 0, 0, 0, 0, 0, 0, 0},
		Labels: []api.Label{{Name: "t0"}, {Name: "t1", At: 4}, {Name: "t2", At: 4}, {Name: "t3", At: 4}, {Name: "t4", At: 8},
			{Name: "d0", Section: 1}, {Name: "d1", Section: 1, At: 1}, {Name: "d2", Section: 1, At: 1}, {Name: "d3", Section: 1, At: 8}},
		Relocs: []api.Reloc{at(4, 4, "d0", 0), {Section: 1, At: 8, Kind: 1, Name: "t1", Add: 4}},
	}))
	o = made(t, "li r0 0", "late:", ".space 3", "odd:", ".align 4", "even:")
	same(t, "labels about nought bytes", said(o), said(api.Object{Text: append(codeOf(t, "li r0 0"), 0, 0, 0, 0), Labels: []api.Label{{Name: "late", At: 4}, {Name: "odd", At: 7}, {Name: "even", At: 8}}}))
}

// 5.1: a label is global, wherever in the text that is said, and however often; no other one is.
func TestGlobals(t *testing.T) {
	for _, lines := range []string{
		".global a|a:|b:|.data|c:", "a:|.global a|b:|.data|c:", "a:|b:|.data|c:|.global a", ".data|.global a|.text|a:|b:|.data|c:",
		".global a|a:|b:|.global a|.data|c:|.global a",
	} {
		o := made(t, strings.Split(lines, "|")...)
		same(t, lines, said(o), said(api.Object{Labels: []api.Label{{Name: "a", Global: true}, {Name: "b"}, {Name: "c", Section: 1}}}))
	}
	o := made(t, ".global c", "a:", "b:", ".global b", ".data", "c:")
	same(t, "b and c", said(o), said(api.Object{Labels: []api.Label{{Name: "a"}, {Name: "b", Global: true}, {Name: "c", Section: 1, Global: true}}}))
}

// 5.1: names that stand for nothing are waited for all the same: of another object, or of this one.
func TestNamesThatAreNotThere(t *testing.T) {
	o := made(t, "call f", ".data", ".word g+65535")
	same(t, "relocations", said(o), said(api.Object{Text: codeOf(t, "call 0"), Data: make([]byte, 4), Relocs: []api.Reloc{at(0, 4, "f", 0), {Section: 1, Kind: 1, Name: "g", Add: 65535}}}))
}

// line is a line of some form, most often a right one.
func (c *chance) line() string {
	r := func() string {
		return of(c, "r0", "r1", "r7", "r15", "r9", "r12", of(c, "r16", "r01", "R1", "1", "r", "a", ""))
	}
	x := func() string {
		name := of(c, "a", "b", "f.main", "$1", "_x", "li.", "r1x", "R2", of(c, "add", "r1", "high", "la", ".text", "1a", "", "a-b", longest, longest+"x"))
		return name + of(c, "", "", "", "+1", "+4", "+65535", of(c, "+0", "+65536", "+04", "+-1", "+", "+a", "+1+1", " +1"))
	}
	n := func() string {
		return of(c, "0", "1", "-1", "5", "16", "255", "256", "32767", "32768", "-32768", "-32769", "40000", "65536", "65537", "8388607", "4294967295", "-2147483648",
			of(c, "4294967296", "-2147483649", "-0", "01", "+1", "0x10", "1.5", "99999999999999999999", "", "a"))
	}
	switch c.below(16) {
	case 0, 1:
		return of(c, "a", "b", "c", "d", "e", "f.main", "g$", longest, of(c, "add", "r3", "", ".byte", "a b", "a+1", "ä")) + of(c, ":", ":", ":", ":", "", " :", "::")
	case 2:
		return of(c, ".text", ".data", ".text", ".data", ".bss", ".Text", "text", ".text x")
	case 3:
		return of(c, ".global ", ".global ", ".global", ".globl ") + x()
	case 4:
		return ".align " + of(c, "1", "2", "4", "4", "8", "16", "16", of(c, "0", "3", "32", "-4", "", "4 4"))
	case 5:
		return ".word " + n()
	case 6:
		return ".word " + x()
	case 7:
		return ".byte" + strings.Repeat(" "+of(c, "0", "7", "255", of(c, "256", "-1", "x")), c.below(of(c, 3, 3, 18)))
	case 8:
		return ".space " + of(c, "0", "1", "3", "4", "4", "8", of(c, "65536", "65537", "-1", "", "1 1"))
	case 9:
		return of(c, "jump ", "call ", "jump", "reg ", "sys ") + x()
	case 10:
		return of(c, "bz ", "bnz ", "li ", "lui ") + r() + " " + x()
	case 11:
		return of(c, "blu ", "blu ", "ori ", "addi ") + r() + " " + r() + " " + x()
	case 12:
		return of(c, "lui ", "lui ", "li ", "la ") + r() + " " + of(c, "high ", "high ", "low ", "High ", "high") + x()
	case 13:
		return of(c, "ori ", "ori ", "andi ", "lui ") + r() + " " + r() + " " + of(c, "low ", "low ", "high ", "low low ") + x()
	case 14:
		return of(c, "la ", "la ", "la") + r() + " " + of(c, x(), x(), n())
	}
	return of(c, "const ", "li ", "lui ", "bz ") + r() + " " + of(c, n(), n(), x())
}

// dressed is a line with blanks and remarks by chance.
func (c *chance) dressed(line string) string {
	gap := func() string { return of(c, " ", " ", "\t", "  ", " \t ") }
	line = strings.ReplaceAll(line, " ", gap())
	return of(c, "", "", gap()) + line + of(c, "", "", gap(), ";", "; add", " ;a:;b", "\t;\xff\x00")
}

// text is lines by chance; most of them right ones, so that faults stand behind some lines.
func (c *chance) text() string {
	var l []string
	p := plain{}
	for range c.below(40) {
		line := c.line()
		for range 6 {
			q := p
			if q.line(len(l), clean(line)) == api.OK {
				p = q
				break
			}
			line = c.line()
		}
		l = append(l, of(c, line, line, line, c.dressed(line), ""))
	}
	return strings.Join(l, "\n") + of(c, "", "\n", "\n\n", "\n;")
}

// 5.1: many texts are assembled as the plainest way has it, or have its fault.
func TestManyTexts(t *testing.T) {
	right, told := 0, map[api.Errno]int{}
	for seed := range 3000 {
		c := chance(seed * 7919)
		text := c.text()
		want, fault := plainAssemble(text)
		o, f := asm.Assemble(text)
		if all(said(o), f) != all(said(want), fault) {
			t.Fatalf("text %d, %.400q: %.400s %v, want %.400s %v", seed, text, said(o), f, said(want), fault)
		}
		told[f.Code]++
		if f.Code == api.OK && len(o.Labels) > 1 && len(o.Relocs) > 1 {
			right++
			same(t, "Check", asm.Check(o), api.OK)
		}
	}
	for _, e := range []api.Errno{api.ErrLine, api.ErrLabel, api.ErrNone} {
		if told[e] < 20 {
			t.Errorf("only %d texts have the fault %d", told[e], e)
		}
	}
	if right < 300 {
		t.Errorf("only %d texts are right, and of some length", right)
	}
}
