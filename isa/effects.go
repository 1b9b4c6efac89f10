package isa

import "catapult/api"

// Reads is the registers that an instruction reads, rising.
func Reads(x api.Instr) ([]int, api.Errno) {
	if e := Check(x); e != api.OK {
		return nil, e
	}
	switch formOf(x.Op) {
	case formR:
		return rising(x.A, x.B), api.OK
	case formT:
		return rising(x.D, x.A), api.OK
	case formS, formU, formC, formE, formB, formG:
		if isStore(x.Op) {
			return rising(x.D, x.A), api.OK
		}
		return []int{x.A}, api.OK
	}
	if asks(x, api.SysExit) || asks(x, api.SysPut) {
		return []int{0}, api.OK
	}
	return nil, api.OK
}

// Writes is the registers that an instruction writes, rising.
func Writes(x api.Instr) ([]int, api.Errno) {
	if e := Check(x); e != api.OK {
		return nil, e
	}
	switch formOf(x.Op) {
	case formR, formS, formU, formC, formE, formL, formH:
		if isStore(x.Op) {
			return nil, api.OK
		}
		return []int{x.D}, api.OK
	}
	switch {
	case isCall(x.Op):
		return []int{api.RegLink}, api.OK
	case asks(x, api.SysGet):
		return []int{0}, api.OK
	}
	return nil, api.OK
}

// Goes tells whether the next instruction may come behind one, and whether another one may.
func Goes(x api.Instr) (bool, bool, api.Errno) {
	if e := Check(x); e != api.OK {
		return false, false, e
	}
	switch x.Op {
	case api.JBz, api.JBnz, api.JBlu:
		return true, true, api.OK
	case api.JJump, api.JReg, api.JCall, api.JCallR:
		return false, true, api.OK
	case api.JTrap:
		return false, false, api.OK
	}
	return !asks(x, api.SysExit), false, api.OK
}

// rising is one or two registers in order, each once.
func rising(a, b int) []int {
	if a == b {
		return []int{a}
	}
	return []int{min(a, b), max(a, b)}
}

// isStore tells whether an operation stores its register D.
func isStore(op int) bool {
	return op == api.JSw || op == api.JSh || op == api.JSb
}

// isCall tells whether an operation sets the link.
func isCall(op int) bool {
	return op == api.JCall || op == api.JCallR
}

// asks tells whether an instruction is this call of the world.
func asks(x api.Instr, call int) bool {
	return x.Op == api.JSys && x.Imm == call
}
