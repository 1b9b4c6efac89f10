package asm

import (
	"strings"

	"catapult/api"
	"catapult/isa"
)

// What the numbers of lines may be.
const (
	mostAlign = 16
	maxBytes  = 16 // numbers of a .byte
	mostByte  = 255
	maxSpace  = 65536
)

// assembler is an object that is made line by line.
type assembler struct {
	object
	here    *section
	at      int // the line that is read
	known   names
	globals []global
}

// global is a name that is to be global, and the line that says so.
type global struct {
	name string
	line int
}

// newAssembler is an assembler that has read nothing.
func newAssembler() *assembler {
	a := &assembler{object: newObject(), known: names{}}
	a.here = &a.text.section
	return a
}

// line does what a line says.
func (a *assembler) line(parts []string) api.Errno {
	if len(parts) == 0 {
		return api.OK
	}
	rest := parts[1:]
	switch parts[0] {
	case wordText, wordData:
		return a.turn(parts[0], rest)
	case wordByte:
		return a.bytes(rest)
	case wordGlobal, wordAlign, wordWord, wordSpace:
		if len(rest) != 1 {
			return api.ErrLine
		}
		return a.directive(parts[0], rest[0])
	}
	if name, ok := strings.CutSuffix(parts[0], ":"); ok && len(rest) == 0 {
		return a.label(name)
	}
	return a.code(parts)
}

// directive does what a line of a word and one part says.
func (a *assembler) directive(word, part string) api.Errno {
	switch word {
	case wordGlobal:
		return a.global(part)
	case wordAlign:
		return a.align(part)
	case wordSpace:
		return a.space(part)
	}
	return a.word(part)
}

// turn goes on in a section.
func (a *assembler) turn(word string, rest []string) api.Errno {
	if len(rest) != 0 {
		return api.ErrLine
	}
	a.here = &a.text.section
	if word == wordData {
		a.here = &a.data.section
	}
	return api.OK
}

// label puts a label here.
func (a *assembler) label(name string) api.Errno {
	if !IsSymbol(name) {
		return api.ErrLine
	}
	l := api.Label{Name: name, Section: a.here.number, At: a.here.size()}
	if !a.known.addAll([]api.Label{l}) {
		return api.ErrLabel
	}
	a.here.labels = append(a.here.labels, l)
	return a.full()
}

// global keeps a name that is to be global.
func (a *assembler) global(name string) api.Errno {
	if !IsSymbol(name) {
		return api.ErrLine
	}
	a.globals = append(a.globals, global{name, a.at})
	return api.OK
}

// align puts nought bytes here, up to a multiple.
func (a *assembler) align(part string) api.Errno {
	switch n, _ := numberOf(part, 1, mostAlign); n {
	case 1, 2, 4, 8, mostAlign:
		a.here.align(n)
		return a.full()
	}
	return api.ErrLine
}

// space puts nought bytes here.
func (a *assembler) space(part string) api.Errno {
	n, ok := numberOf(part, 0, maxSpace)
	if !ok {
		return api.ErrLine
	}
	a.here.put(make([]byte, n)...)
	return a.full()
}

// bytes puts bytes here.
func (a *assembler) bytes(parts []string) api.Errno {
	if len(parts) == 0 || len(parts) > maxBytes {
		return api.ErrLine
	}
	for _, part := range parts {
		n, ok := numberOf(part, 0, mostByte)
		if !ok {
			return api.ErrLine
		}
		a.here.put(byte(n))
	}
	return a.full()
}

// word puts a word here: a number, or an address that is waited for.
func (a *assembler) word(part string) api.Errno {
	if n, ok := numberOf(part, leastWord, mostWord); ok {
		a.here.put(wordOf(n)...)
		return a.full()
	}
	wait, ok := addressOf(part)
	if !ok || !a.isAligned() {
		return api.ErrLine
	}
	wait.Kind = api.RelWord
	a.wait(wait)
	a.here.put(wordOf(0)...)
	return a.full()
}

// code puts instructions here.
func (a *assembler) code(parts []string) api.Errno {
	l, ok := itemsOf(parts)
	if !ok || a.here.number != inText || !a.isAligned() {
		return api.ErrLine
	}
	for _, x := range l {
		if x.waits() {
			a.wait(x.wait)
		}
		b, _ := isa.Code(x.Instr)
		a.here.put(b...)
	}
	return a.full()
}

// wait has what is put here next wait for an address.
func (a *assembler) wait(r api.Reloc) {
	r.Section, r.At = a.here.number, a.here.size()
	a.here.relocs = append(a.here.relocs, r)
}

// isAligned tells whether a word may stand here.
func (a *assembler) isAligned() bool { return a.here.size()%wordBytes == 0 }

// full is the error of an object that has grown too long.
func (a *assembler) full() api.Errno {
	if a.isLong() {
		return api.ErrLong
	}
	return api.OK
}

// makeGlobal makes labels global, when all of them are known; or it is the fault of the first line with a name that is none.
func (a *assembler) makeGlobal() api.Fault {
	named := names{}
	for _, g := range a.globals {
		if !a.known.has(g.name) {
			return api.Fault{At: g.line, Code: api.ErrNone}
		}
		named[g.name] = struct{}{}
	}
	for _, s := range [...]*section{&a.text.section, &a.data.section} {
		for i, l := range s.labels {
			s.labels[i].Global = named.has(l.Name)
		}
	}
	return api.Fault{}
}
