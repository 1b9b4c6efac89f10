package isa

import "catapult/api"

// form is which fields an operation's instructions have.
type form int

// The forms, by the document's letters.
const (
	formNone form = iota
	formR
	formS
	formU
	formC
	formL
	formH
	formE
	formB
	formT
	formJ
	formG
	formW
)

// formOf is an operation's form; none, if there is no such operation.
func formOf(op int) form {
	switch {
	case api.JAdd <= op && op <= api.JNe:
		return formR
	case op == api.JAddI, api.JLw <= op && op <= api.JSb:
		return formS
	case op == api.JAndI, op == api.JOrI, op == api.JXorI:
		return formU
	case op == api.JShlI, op == api.JShrI, op == api.JShrUI:
		return formC
	case op == api.JLi:
		return formL
	case op == api.JLui:
		return formH
	case op == api.JExt:
		return formE
	case op == api.JBz, op == api.JBnz:
		return formB
	case op == api.JBlu:
		return formT
	case op == api.JJump, op == api.JCall:
		return formJ
	case op == api.JReg, op == api.JCallR:
		return formG
	case op == api.JSys, op == api.JTrap:
		return formW
	}
	return formNone
}

// How wide Imm is in a word, and its edges there: with a sign (least, most), without (mostU).
const (
	narrow = 16
	wide   = 24

	leastNarrow = -1 << (narrow - 1)
	mostNarrow  = 1<<(narrow-1) - 1
	mostNarrowU = 1<<narrow - 1
	leastWide   = -1 << (wide - 1)
	mostWide    = 1<<(wide-1) - 1
	mostCount   = 31
)

// layout is what a form has: which registers, and how many bits of Imm (0: none), from least to most.
type layout struct {
	d, a, b           bool
	bits, least, most int
}

// layoutOf is what a form has.
func layoutOf(f form) layout {
	switch f {
	case formR:
		return layout{d: true, a: true, b: true}
	case formS, formT:
		return layout{d: true, a: true, bits: narrow, least: leastNarrow, most: mostNarrow}
	case formU:
		return layout{d: true, a: true, bits: narrow, most: mostNarrowU}
	case formC:
		return layout{d: true, a: true, bits: narrow, most: mostCount}
	case formL:
		return layout{d: true, bits: narrow, least: leastNarrow, most: mostNarrow}
	case formH:
		return layout{d: true, bits: narrow, most: mostNarrowU}
	case formE:
		return layout{d: true, a: true, bits: narrow, least: 8, most: 16}
	case formB:
		return layout{a: true, bits: narrow, least: leastNarrow, most: mostNarrow}
	case formJ:
		return layout{bits: wide, least: leastWide, most: mostWide}
	case formG:
		return layout{a: true}
	case formW:
		return layout{bits: narrow, most: mostNarrowU}
	}
	return layout{}
}
