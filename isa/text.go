package isa

import (
	"strconv"
	"strings"

	"catapult/api"
)

// names is the operations' words in texts, by the operation.
var names = [...]string{
	api.JAdd: "add", api.JSub: "sub", api.JMul: "mul",
	api.JDiv: "div", api.JDivU: "divu", api.JRem: "rem", api.JRemU: "remu",
	api.JAnd: "and", api.JOr: "or", api.JXor: "xor",
	api.JShl: "shl", api.JShr: "shr", api.JShrU: "shru",
	api.JLt: "lt", api.JLtU: "ltu", api.JEq: "eq", api.JNe: "ne",
	api.JAddI: "addi", api.JAndI: "andi", api.JOrI: "ori", api.JXorI: "xori",
	api.JShlI: "shli", api.JShrI: "shri", api.JShrUI: "shrui",
	api.JLi: "li", api.JLui: "lui", api.JExt: "ext",
	api.JLw: "lw", api.JLh: "lh", api.JLb: "lb",
	api.JSw: "sw", api.JSh: "sh", api.JSb: "sb",
	api.JBz: "bz", api.JBnz: "bnz", api.JBlu: "blu",
	api.JJump: "jump", api.JCall: "call", api.JReg: "reg", api.JCallR: "callr",
	api.JSys: "sys", api.JTrap: "trap",
}

// What parts a text, and what stands ahead of a register's number.
const (
	blank  = " "
	before = "r"
)

// Print is an instruction's text.
func Print(x api.Instr) (string, api.Errno) {
	if e := Check(x); e != api.OK {
		return "", e
	}
	l := layoutOf(formOf(x.Op))
	text := names[x.Op]
	if l.d {
		text += blank + before + strconv.Itoa(x.D)
	}
	if l.a {
		text += blank + before + strconv.Itoa(x.A)
	}
	if l.b {
		text += blank + before + strconv.Itoa(x.B)
	}
	if l.bits > 0 {
		text += blank + strconv.Itoa(x.Imm)
	}
	return text, api.OK
}

// Parse reads an instruction.
func Parse(s string) (api.Instr, api.Errno) {
	if len(s) > api.MaxText {
		return api.Instr{}, api.ErrLong
	}
	x := read(s)
	// The way back finds all that is written otherwise than it is printed.
	if back, e := Print(x); e != api.OK || back != s {
		return api.Instr{}, api.ErrForm
	}
	return x, api.OK
}

// read takes out of a text the fields that its operation has; whether they are right is not looked at.
func read(s string) api.Instr {
	name, rest, _ := strings.Cut(s, blank)
	x := api.Instr{Op: opOf(name)}
	l := layoutOf(formOf(x.Op))
	if l.d {
		x.D, rest = number(rest)
	}
	if l.a {
		x.A, rest = number(rest)
	}
	if l.b {
		x.B, rest = number(rest)
	}
	if l.bits > 0 {
		x.Imm, _ = number(rest)
	}
	return x
}

// opOf is the operation of a word in a text; 0, which is none, if there is no such word.
func opOf(name string) int {
	for op := api.JAdd; op < len(names); op++ {
		if names[op] == name {
			return op
		}
	}
	return 0
}

// number is the number that a text's first part ends with, 0 of another part, and the text behind it.
func number(s string) (int, string) {
	part, rest, _ := strings.Cut(s, blank)
	n, err := strconv.Atoi(strings.TrimPrefix(part, before))
	if err != nil {
		return 0, rest
	}
	return n, rest
}
