package asm_test

import (
	"fmt"
	"math"
	"strings"
	"testing"

	"catapult/api"
	"catapult/asm"
)

// waitingCode is instructions and words that may wait, and the kinds that each fits to.
func waitingCode(t *testing.T) map[string][]int {
	t.Helper()
	return map[string][]int{
		"jump 0": {4}, "call 0": {4}, "bz r3 0": {5}, "bnz r0 0": {5}, "blu r1 r2 0": {5}, "lui r9 0": {2}, "ori r9 r8 0": {3}, "=0 0 0 0": {1},
		"jump 1": nil, "call -1": nil, "bz r3 1": nil, "bnz r0 -1": nil, "blu r1 r2 4": nil, "lui r9 1": nil, "ori r9 r8 1": nil, "=1 0 0 0": nil, "=0 0 0 1": nil, "=0 1 0 0": nil,
		"addi r1 r1 0": nil, "andi r1 r1 0": nil, "xori r1 r1 0": nil, "li r1 0": nil, "lw r1 r2 0": nil, "add r1 r2 r3": nil, "reg r14": nil, "callr r1": nil, "sys 0": nil, "trap 0": nil, "=255 255 255 255": nil,
	}
}

// 5.1: a relocation is right at the words to which it fits, of text; of data at noughts alone.
func TestRelocsFit(t *testing.T) {
	for code, kinds := range waitingCode(t) {
		b := append(make([]byte, 4), mixed(t, code)...)
		for kind := -1; kind <= 7; kind++ {
			want, ofData := api.ErrShape, api.ErrShape
			for _, k := range kinds {
				if k == kind {
					want = api.OK
				}
			}
			if kind == 1 && code == "=0 0 0 0" {
				ofData = api.OK
			}
			same(t, fmt.Sprint(kind, " at ", code), asm.Check(api.Object{Text: b, Relocs: []api.Reloc{at(4, kind, "a", 0)}}), want)
			same(t, fmt.Sprint(kind, " in data at ", code), asm.Check(api.Object{Data: b, Relocs: []api.Reloc{{Section: 1, At: 4, Kind: kind, Name: "a"}}}), ofData)
		}
	}
}

// good is an object that is right, with all that one may have.
func good(t *testing.T) api.Object {
	t.Helper()
	return made(t, "a:", "li r0 0", ".global b", "b:", "jump a+5", "lui r1 high c", "ori r1 r1 low c", "blu r1 r2 b", ".word c", ".byte 1 2 3", "d:", ".align 4", "call b",
		".data", ".byte 1 2 3", "c:", ".global e", "e:", ".align 4", ".word a+65535", ".word c", ".byte 9", "f:")
}

// 5.1: an object that is right, and nothing at all.
func TestCheckRight(t *testing.T) {
	same(t, "good", asm.Check(good(t)), api.OK)
	same(t, "nothing", asm.Check(api.Object{}), api.OK)
	same(t, "empty lists", asm.Check(api.Object{Text: []byte{}, Data: []byte{}, Labels: []api.Label{}, Relocs: []api.Reloc{}}), api.OK)
	same(t, "labels of nothing", asm.Check(api.Object{Labels: []api.Label{{Name: "b"}, {Name: "a"}, {Name: "c", Section: 1}}}), api.OK)
	same(t, "words that are no instructions", asm.Check(api.Object{Text: []byte{1, 2, 3, 4, 5}}), api.OK)
}

// 5.1: each thing by itself that makes an object not right.
func TestCheckOneThingWrong(t *testing.T) {
	if o := good(t); len(o.Labels) != 6 || len(o.Relocs) != 8 || o.Labels[3].Section != 1 || o.Relocs[6].Section != 1 || len(o.Text) != 32 || len(o.Data) != 13 {
		t.Fatalf("good is another one: %.400s", said(o))
	}
	for what, spoil := range map[string]func(o *api.Object){
		"a label's section above":                func(o *api.Object) { o.Labels[5].Section = 2 },
		"a label's section below":                func(o *api.Object) { o.Labels[0].Section = -1 },
		"a label ahead":                          func(o *api.Object) { o.Labels[0].At = -1 },
		"a label far ahead":                      func(o *api.Object) { o.Labels[0].At = math.MinInt },
		"a label behind text":                    func(o *api.Object) { o.Labels[2].At = 33 },
		"a label behind data":                    func(o *api.Object) { o.Labels[5].At = 14 },
		"a label far behind":                     func(o *api.Object) { o.Labels[5].At = math.MaxInt },
		"labels not in order":                    func(o *api.Object) { o.Labels[1].At, o.Labels[2].At = 8, 4 },
		"a label of data not in order":           func(o *api.Object) { o.Labels[5].At = 2 },
		"labels' sections not in order":          func(o *api.Object) { o.Labels[2].Section, o.Labels[3].Section = 1, 0 },
		"text behind data":                       func(o *api.Object) { o.Labels[5].Section = 0 },
		"a label twice":                          func(o *api.Object) { o.Labels[1].Name = "a" },
		"a label in both":                        func(o *api.Object) { o.Labels[5].Name = "a" },
		"a label twice in data":                  func(o *api.Object) { o.Labels[5].Name = "c" },
		"a label without a name":                 func(o *api.Object) { o.Labels[1].Name = "" },
		"a label named as a register":            func(o *api.Object) { o.Labels[1].Name = "r3" },
		"a label of data that is no symbol":      func(o *api.Object) { o.Labels[5].Name = "add" },
		"a name that is too long":                func(o *api.Object) { o.Labels[1].Name = longest + "x" },
		"a relocation's section above":           func(o *api.Object) { o.Relocs[7].Section = 2 },
		"a relocation's section below":           func(o *api.Object) { o.Relocs[0].Section = -1 },
		"a relocation's sections not in order":   func(o *api.Object) { o.Relocs[6], o.Relocs[4] = o.Relocs[4], o.Relocs[6] },
		"a relocation of text behind data":       func(o *api.Object) { o.Relocs[7] = api.Reloc{At: 28, Kind: 4, Name: "b"} },
		"relocations not in order":               func(o *api.Object) { o.Relocs[0], o.Relocs[5] = o.Relocs[5], o.Relocs[0] },
		"relocations of data not in order":       func(o *api.Object) { o.Relocs[6], o.Relocs[7] = o.Relocs[7], o.Relocs[6] },
		"two relocations at a place":             func(o *api.Object) { o.Relocs[1] = o.Relocs[0] },
		"two relocations at a place of data":     func(o *api.Object) { o.Relocs[7] = o.Relocs[6] },
		"a relocation ahead":                     func(o *api.Object) { o.Relocs[0].At = -4 },
		"a relocation far ahead":                 func(o *api.Object) { o.Relocs[0].At = math.MinInt },
		"a relocation at no word":                func(o *api.Object) { o.Relocs[6].At = 5; o.Data = make([]byte, 13) },
		"a relocation at half a word":            func(o *api.Object) { o.Relocs[6].At = 6; o.Data = make([]byte, 13) },
		"a relocation behind text":               func(o *api.Object) { o.Relocs[5].At = 32 },
		"a relocation whose word goes beyond":    func(o *api.Object) { o.Relocs[7].At = 12; o.Data[12] = 0 },
		"a relocation far behind":                func(o *api.Object) { o.Relocs[7].At = math.MaxInt - 3 },
		"a kind that is none":                    func(o *api.Object) { o.Relocs[0].Kind = 0 },
		"a kind of none, at another instruction": func(o *api.Object) { o.Relocs[0] = api.Reloc{At: 0, Name: "a"} },
		"a kind above":                           func(o *api.Object) { o.Relocs[7].Kind = 6 },
		"a kind of text in data":                 func(o *api.Object) { o.Relocs[7].Kind = 4; copy(o.Data[8:], o.Text[28:]) },
		"a word that waits, at an instruction":   func(o *api.Object) { o.Relocs[0].Kind = 1 },
		"an instruction that waits, at noughts":  func(o *api.Object) { o.Relocs[4].Kind = 4 },
		"an Imm that is not 0":                   func(o *api.Object) { o.Text[4] = 1 },
		"a word that is not 0":                   func(o *api.Object) { o.Text[22] = 1 },
		"a word of data that is not 0":           func(o *api.Object) { o.Data[11] = 1 },
		"Add below 0":                            func(o *api.Object) { o.Relocs[0].Add = -1 },
		"Add above":                              func(o *api.Object) { o.Relocs[6].Add = 65536 },
		"a relocation without a name":            func(o *api.Object) { o.Relocs[0].Name = "" },
		"a relocation's name that is no symbol":  func(o *api.Object) { o.Relocs[7].Name = "a+1" },
		"a relocation's name that is too long":   func(o *api.Object) { o.Relocs[1].Name = longest + "x" },
		"text that is cut":                       func(o *api.Object) { o.Text = o.Text[:31] },
		"data that is cut at a label":            func(o *api.Object) { o.Data = o.Data[:12] },
		"data that is cut":                       func(o *api.Object) { o.Data, o.Labels = o.Data[:11], o.Labels[:5] },
		"no text":                                func(o *api.Object) { o.Text = nil },
		"no data":                                func(o *api.Object) { o.Data = nil },
	} {
		o := copied(good(t))
		spoil(&o)
		same(t, "Check of "+what, asm.Check(o), api.ErrShape)
		s, e := asm.Print(o)
		same(t, "Print of "+what, all(s, e), all("", api.ErrShape))
		same(t, "the plainest way, of "+what, plainRight(o), false)
	}
}

// 5.1: an object may be as long as the words say, and what is longer is told ahead of what is not right.
func TestCheckTooLong(t *testing.T) {
	labels := func(n int) []api.Label {
		var l []api.Label
		for i := range n {
			l = append(l, api.Label{Name: fmt.Sprint("l", i), Section: i * 2 / n})
		}
		return l
	}
	relocs := func(n int) []api.Reloc {
		var l []api.Reloc
		for i := range n {
			l = append(l, api.Reloc{Section: i * 2 / n, At: i % ((n + 1) / 2) * 4, Kind: 1, Name: "a", Add: i})
		}
		return l
	}
	long := make([]byte, 1<<20+1)
	full := api.Object{Text: long[1:], Data: long[1:], Labels: labels(api.MaxItems), Relocs: relocs(1 << 14)}
	same(t, "full", asm.Check(full), api.OK)
	wrong := full
	wrong.Labels = append(labels(api.MaxItems-1), api.Label{Name: "r1", Section: 1})
	same(t, "full, and not right", asm.Check(wrong), api.ErrShape)
	for what, spoil := range map[string]func(o *api.Object){
		"text":        func(o *api.Object) { o.Text = long },
		"data":        func(o *api.Object) { o.Data = long },
		"labels":      func(o *api.Object) { o.Labels = labels(api.MaxItems + 1) },
		"relocations": func(o *api.Object) { o.Relocs = relocs(1<<14 + 1) },
	} {
		for _, o := range []api.Object{full, wrong} {
			spoil(&o)
			same(t, "too much of "+what, asm.Check(o), api.ErrLong)
			s, e := asm.Print(o)
			same(t, "Print of too much of "+what, all(s, e), all("", api.ErrLong))
		}
	}
	for _, section := range []int{-1, 0, 1, 2} {
		all := make([]api.Label, api.MaxItems+1)
		for i := range all {
			all[i].Section = section
		}
		same(t, "labels without names", asm.Check(api.Object{Labels: all}), api.ErrLong)
		same(t, "relocations of nothing", asm.Check(api.Object{Relocs: append(make([]api.Reloc, 1<<14), api.Reloc{Section: section})}), api.ErrLong)
	}
	same(t, "a long name", asm.Check(api.Object{Labels: []api.Label{{Name: strings.Repeat("a", 1<<20)}}}), api.ErrShape)
}

// 5.1: many objects, spoilt by chance, are right as the plainest way has it.
func TestManyChecks(t *testing.T) {
	right, wrong := 0, 0
	for seed := range 6000 {
		c := chance(seed*31 + 7)
		o := c.object(t)
		for range c.below(3) {
			c.spoil(&o)
		}
		want := api.OK
		if plainRight(o) {
			right++
		} else {
			want, wrong = api.ErrShape, wrong+1
		}
		if got := asm.Check(o); got != want {
			t.Fatalf("object %d: %v, want %v: %.400s", seed, got, want, said(o))
		}
	}
	if right < 1000 || wrong < 1000 {
		t.Errorf("%d objects are right, %d are not", right, wrong)
	}
}
