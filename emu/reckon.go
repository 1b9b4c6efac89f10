package emu

import (
	"catapult/api"
	"catapult/word"
)

// reckon sets a register to what an operation makes of another one, and of a third one or Imm.
func (m *Machine) reckon(x api.Instr) {
	b := word.Of(x.Imm)
	if x.Op <= api.JNe {
		b = m.regs[x.B]
	}
	w, ok := result(x.Op, m.regs[x.A], b)
	if !ok {
		m.stop(api.EndDivZero, 0)
		return
	}
	m.regs[x.D] = w
}

// result is what an operation makes of two words; false of a division by nought.
func result(op int, a, b uint32) (uint32, bool) {
	switch op {
	case api.JDiv, api.JDivU, api.JRem, api.JRemU:
		return divided(op, a, b)
	case api.JShl, api.JShlI:
		return word.Shl(a, b), true
	case api.JShr, api.JShrI:
		return word.Shr(a, b), true
	case api.JShrU, api.JShrUI:
		return word.ShrU(a, b), true
	case api.JLt:
		return truth(word.Lt(a, b)), true
	case api.JLtU:
		return truth(a < b), true
	case api.JEq:
		return truth(a == b), true
	case api.JNe:
		return truth(a != b), true
	}
	return combined(op, a, b), true
}

// combined is what the operations that neither divide, shift nor compare make of two words.
func combined(op int, a, b uint32) uint32 {
	var w uint32
	switch op {
	case api.JAdd, api.JAddI:
		w, _ = word.Add(a, b)
	case api.JSub:
		w, _ = word.Sub(a, b)
	case api.JMul:
		w, _ = word.Mul(a, b)
	case api.JAnd, api.JAndI:
		w = a & b
	case api.JOr, api.JOrI:
		w = a | b
	case api.JXor, api.JXorI:
		w = a ^ b
	case api.JLi:
		w = b
	case api.JLui:
		w = word.Shl(b, 16)
	case api.JExt:
		w, _ = word.Ext(a, int(b))
	}
	return w
}

// divided is a quotient or a rest; false by nought.
func divided(op int, a, b uint32) (uint32, bool) {
	divide := word.Div
	if op == api.JDivU || op == api.JRemU {
		divide = word.DivU
	}
	quotient, rest, ok := divide(a, b)
	if op == api.JRem || op == api.JRemU {
		return rest, ok
	}
	return quotient, ok
}

// truth is 1 of what holds, else 0.
func truth(holds bool) uint32 {
	if holds {
		return 1
	}
	return 0
}
