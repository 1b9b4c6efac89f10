package link

import (
	"catapult/api"
	"catapult/isa"
)

const (
	wordBytes = 4
	halfBits  = 16
)

// putIn puts what a relocation waits for into its word; or it is what is wrong with the relocation.
func (l *layout) putIn(r api.Reloc) api.Errno {
	at, ok := l.names[r.Name]
	if !ok {
		return api.ErrLabels
	}
	place := l.section(r.Section)[r.At : r.At+wordBytes]
	next := l.ranges[r.Section].From + r.At + wordBytes
	code, ok := codeOf(r.Kind, wordAt(place), at+r.Add, next)
	if !ok {
		return api.ErrRoom
	}
	copy(place, code)
	return api.OK
}

// codeOf is a word's bytes with an address put in as a kind of relocation asks for it, next being the address behind the word; and whether that fits.
func codeOf(kind int, word uint32, address, next int) ([]byte, bool) {
	if kind == api.RelWord {
		return bytesOf(address), true
	}
	imm, ok := immOf(kind, address, next)
	x, _ := isa.Decode(word)
	x.Imm = imm
	code, f := isa.Code(x)
	return code, ok && f.Code == api.OK
}

// immOf is the Imm by which an instruction tells an address, and whether it is a whole number.
func immOf(kind, address, next int) (int, bool) {
	switch kind {
	case api.RelHigh:
		return address >> halfBits, true
	case api.RelLow:
		return address % (1 << halfBits), true
	}
	return (address - next) / wordBytes, (address-next)%wordBytes == 0
}

// wordAt is the word that bytes begin with, its lowest byte first.
func wordAt(b []byte) uint32 {
	return uint32(b[0]) | uint32(b[1])<<8 | uint32(b[2])<<16 | uint32(b[3])<<24
}

// bytesOf is the bytes of a number modulo 1 << 32, the lowest first.
func bytesOf(n int) []byte { return []byte{byte(n), byte(n >> 8), byte(n >> 16), byte(n >> 24)} }
