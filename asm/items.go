package asm

import (
	"strings"

	"catapult/api"
	"catapult/isa"
)

// item is an instruction, and the address that it waits for, if it has a kind.
type item struct {
	api.Instr
	wait api.Reloc
}

// kindOf is as what an operation's instructions may wait for an address, and whether they may.
func kindOf(op int) (int, bool) {
	switch op {
	case api.JJump, api.JCall:
		return api.RelJump, true
	case api.JBz, api.JBnz, api.JBlu:
		return api.RelNear, true
	case api.JLui:
		return api.RelHigh, true
	case api.JOrI:
		return api.RelLow, true
	}
	return 0, false
}

// halfOf is the word ahead of an address that is waited for as this kind; empty, if there is none.
func halfOf(kind int) string {
	switch kind {
	case api.RelHigh:
		return wordHigh
	case api.RelLow:
		return wordLow
	}
	return ""
}

// itemsOf is the instructions that a line's parts are, and whether they are any.
func itemsOf(parts []string) ([]item, bool) {
	switch {
	case parts[0] == wordLa && len(parts) == 3:
		return addressItems(parts[1], parts[2])
	case parts[0] == wordConst && len(parts) == 3:
		return constItems(parts[1], parts[2])
	}
	x, ok := itemOf(parts...)
	return []item{x}, ok
}

// addressItems is the instructions by which a register has an address.
func addressItems(d, address string) ([]item, bool) {
	high, ok := itemOf("lui", d, wordHigh, address)
	low, also := itemOf("ori", d, d, wordLow, address)
	return []item{high, low}, ok && also
}

// constItems is the instructions by which a register has a number.
func constItems(d, number string) ([]item, bool) {
	register, e := isa.Parse("li " + d + " 0")
	n, ok := numberOf(number, leastWord, mostWord)
	if e != api.OK || !ok {
		return nil, false
	}
	var l []item
	instructions, _ := Const(register.D, n)
	for _, x := range instructions {
		l = append(l, item{Instr: x})
	}
	return l, true
}

// itemOf is the one instruction that parts are, and whether they are one.
func itemOf(parts ...string) (item, bool) {
	if x, e := isa.Parse(strings.Join(parts, " ")); e == api.OK {
		return item{Instr: x}, true
	}
	return waitingItem(parts)
}

// waitingItem is the instruction that parts are, with an address in the place of its Imm, and whether they are one.
func waitingItem(parts []string) (item, bool) {
	ahead := parts[:len(parts)-1]
	wait, ok := addressOf(parts[len(parts)-1])
	half := ""
	if n := len(ahead); n > 0 && (ahead[n-1] == wordHigh || ahead[n-1] == wordLow) {
		ahead, half = ahead[:n-1], ahead[n-1]
	}
	x, e := isa.Parse(strings.Join(ahead, " ") + " 0")
	kind, waits := kindOf(x.Op)
	if !ok || e != api.OK || !waits || half != halfOf(kind) {
		return item{}, false
	}
	wait.Kind = kind
	return item{x, wait}, true
}

// waits tells whether an instruction waits for an address.
func (x item) waits() bool { return x.wait.Kind != 0 }

// text is an item as a line.
func (x item) text() string {
	s, _ := isa.Print(x.Instr)
	if !x.waits() {
		return s
	}
	s = strings.TrimSuffix(s, "0")
	if half := halfOf(x.wait.Kind); half != "" {
		s += half + " "
	}
	return s + addressText(x.wait)
}
