package emu

import (
	"catapult/api"
	"catapult/isa"
	"catapult/word"
)

// wordBytes is how many bytes a word, and so an instruction, has.
const wordBytes = 4

// step makes a step of a machine that goes on.
func (m *Machine) step() api.Effect {
	effect := api.Effect{Pc: int(m.place)}
	m.steps++
	x, e := m.instruction()
	if e != api.OK {
		m.refuse(e)
		return effect
	}
	next, _ := word.Add(m.place, wordBytes)
	switch x.Op {
	case api.JLw, api.JLh, api.JLb:
		m.load(x)
	case api.JSw, api.JSh, api.JSb:
		effect.At, effect.Bytes = m.store(x)
	case api.JBz, api.JBnz, api.JBlu, api.JJump, api.JCall, api.JReg, api.JCallR:
		next = m.turn(x, next)
	case api.JSys:
		m.ask(x.Imm)
	case api.JTrap:
		m.trap(x.Imm)
	default:
		m.reckon(x)
	}
	if m.goesOn() {
		m.place = next
	}
	return effect
}

// instruction is the one at the place.
func (m *Machine) instruction() (api.Instr, api.Errno) {
	w, e := m.Fetch(m.place)
	if e != api.OK {
		return api.Instr{}, e
	}
	return isa.Decode(w)
}

// stop ends the run.
func (m *Machine) stop(end, code int) { m.end, m.code = end, code }

// refuse ends the run by the number of what was refused.
func (m *Machine) refuse(e api.Errno) { m.stop(api.EndTrap, int(e)) }

// address is where an instruction loads from, or stores to.
func (m *Machine) address(x api.Instr) uint32 {
	at, _ := word.Add(m.regs[x.A], word.Of(x.Imm))
	return at
}

// bytesOf is how many bytes an operation loads or stores.
func bytesOf(op int) int {
	switch op {
	case api.JLb, api.JSb:
		return 1
	case api.JLh, api.JSh:
		return 2
	}
	return wordBytes
}

// load sets a register to what is at an address, with its sign.
func (m *Machine) load(x api.Instr) {
	n := bytesOf(x.Op)
	w, e := m.Load(m.address(x), n)
	if e != api.OK {
		m.refuse(e)
		return
	}
	m.regs[x.D], _ = word.Ext(w, 8*n)
}

// store puts the lowest bytes of a register at an address: which one, and how many; none, if that is refused.
func (m *Machine) store(x api.Instr) (int, int) {
	at, n := m.address(x), bytesOf(x.Op)
	if e := m.Store(at, n, m.regs[x.D]); e != api.OK {
		m.refuse(e)
		return 0, 0
	}
	return int(at), n
}

// turn is the place behind a branch, a jump or a call, next being the next address; a call sets the link.
func (m *Machine) turn(x api.Instr, next uint32) uint32 {
	a := m.regs[x.A] // ahead of the link being written
	to, _ := word.Add(next, word.Of(wordBytes*x.Imm))
	goes := true
	switch x.Op {
	case api.JBz:
		goes = a == 0
	case api.JBnz:
		goes = a != 0
	case api.JBlu:
		goes = m.regs[x.D] < a
	case api.JReg:
		to = a
	case api.JCall:
		m.regs[api.RegLink] = next
	case api.JCallR:
		to = a
		m.regs[api.RegLink] = next
	}
	if !goes {
		return next
	}
	return to
}

// ask calls the world.
func (m *Machine) ask(call int) {
	switch call {
	case api.SysExit:
		m.stop(api.EndExit, word.Signed(m.regs[0]))
	case api.SysGet:
		m.regs[0] = m.get()
	case api.SysPut:
		if !m.put(byte(m.regs[0])) {
			m.stop(api.EndTrap, api.TrapMuch)
		}
	default:
		m.stop(api.EndTrap, api.TrapWorld)
	}
}

// trap ends the run by a trap.
func (m *Machine) trap(n int) {
	if n == api.TrapFull {
		m.stop(api.EndStack, 0)
		return
	}
	m.stop(api.EndTrap, api.TrapTold+n)
}
