package asm

import (
	"sort"
	"strconv"

	"catapult/api"
	"catapult/isa"
)

// wordBytes is how many bytes a word has.
const wordBytes = 4

// section is what both sections have in common: bytes, and the labels and relocations among them, in order.
type section struct {
	number int
	bytes  []byte
	labels []api.Label
	relocs []api.Reloc
}

// textSection is a section in which instructions may stand.
type textSection struct{ section }

// dataSection is a section that has nothing but what both have in common.
type dataSection struct{ section }

// size is how many bytes there are.
func (s *section) size() int { return len(s.bytes) }

// put puts bytes behind those that are there.
func (s *section) put(b ...byte) { s.bytes = append(s.bytes, b...) }

// align puts nought bytes behind those that are there, till they are a multiple of n.
func (s *section) align(n int) { s.put(make([]byte, (n-s.size()%n)%n)...) }

// add puts another section behind this one.
func (s *section) add(t section) {
	base := s.size()
	for _, l := range t.labels {
		l.At += base
		s.labels = append(s.labels, l)
	}
	for _, r := range t.relocs {
		r.At += base
		s.relocs = append(s.relocs, r)
	}
	s.put(t.bytes...)
}

// wordOf is the four bytes of a number modulo 1 << 32, the lowest first.
func wordOf(n int) []byte { return []byte{byte(n), byte(n >> 8), byte(n >> 16), byte(n >> 24)} }

// wordAt is the word from a place on.
func (s *section) wordAt(at int) uint32 {
	b := s.bytes[at : at+wordBytes]
	return uint32(b[0]) | uint32(b[1])<<8 | uint32(b[2])<<16 | uint32(b[3])<<24
}

// labelsIn is the labels from a place on, ahead of another one.
func (s *section) labelsIn(from, to int) []api.Label {
	first := sort.Search(len(s.labels), func(i int) bool { return s.labels[i].At >= from })
	behind := sort.Search(len(s.labels), func(i int) bool { return s.labels[i].At >= to })
	return s.labels[first:behind]
}

// relocAt is the relocation at a place, and whether there is one.
func (s *section) relocAt(at int) (api.Reloc, bool) {
	i := sort.Search(len(s.relocs), func(i int) bool { return s.relocs[i].At >= at })
	if i == len(s.relocs) || s.relocs[i].At != at {
		return api.Reloc{}, false
	}
	return s.relocs[i], true
}

// isWhole tells whether no label stands within the word at a place.
func (s *section) isWhole(at int) bool { return len(s.labelsIn(at+1, at+wordBytes)) == 0 }

// isCut tells whether a label stands within a word that waits for an address.
func (s *section) isCut() bool {
	for _, r := range s.relocs {
		if !s.isWhole(r.At) {
			return true
		}
	}
	return false
}

// isRight tells whether labels and relocations are right; a relocation whose word is there must fit.
func (s *section) isRight(fits func(api.Reloc) bool) bool {
	least := 0
	for _, l := range s.labels {
		if l.Section != s.number || l.At < least || l.At > s.size() || !IsSymbol(l.Name) {
			return false
		}
		least = l.At
	}
	least = 0
	for _, r := range s.relocs {
		if r.Section != s.number || r.At < least || r.At > s.size()-wordBytes || r.At%wordBytes != 0 {
			return false
		}
		if r.Add < 0 || r.Add > maxAdd || !IsSymbol(r.Name) || !fits(r) {
			return false
		}
		least = r.At + 1
	}
	return true
}

// fits tells whether a relocation is of a kind that may be at its word: here an address, in place of noughts.
func (s *section) fits(r api.Reloc) bool { return r.Kind == api.RelWord && s.wordAt(r.At) == 0 }

// fits: in text the kinds of instructions may be there too.
func (t *textSection) fits(r api.Reloc) bool {
	if x, e := isa.Decode(t.wordAt(r.At)); e == api.OK {
		kind, ok := kindOf(x.Op)
		return ok && kind == r.Kind && x.Imm == 0
	}
	return t.section.fits(r)
}

// tell is the line of what stands at a place, and how many bytes that is.
func (s *section) tell(at int) (string, int) {
	if r, ok := s.relocAt(at); ok {
		return wordWord + " " + addressText(r), wordBytes
	}
	return wordByte + " " + strconv.Itoa(int(s.bytes[at])), 1
}

// tell: in text that may be an instruction.
func (t *textSection) tell(at int) (string, int) {
	x, ok := t.instructionAt(at)
	if !ok {
		return t.section.tell(at)
	}
	r, _ := t.relocAt(at)
	return item{x, r}.text(), wordBytes
}

// instructionAt is the instruction at a place, and whether there is one that no label cuts.
func (t *textSection) instructionAt(at int) (api.Instr, bool) {
	if at%wordBytes != 0 || at > t.size()-wordBytes || !t.isWhole(at) {
		return api.Instr{}, false
	}
	x, e := isa.Decode(t.wordAt(at))
	return x, e == api.OK
}
