package emu

import "catapult/word"

// console is the input, how many bytes of it are read, and those that were told.
type console struct {
	input []byte // never written to: clones have it in common
	got   int
	told  []byte
}

// get reads the next byte of the input: it, or at the end the word of -1.
func (c *console) get() uint32 {
	if c.got == len(c.input) {
		return word.Of(-1)
	}
	c.got++
	return uint32(c.input[c.got-1])
}

// put tells a byte; false, if there is no room for it.
func (c *console) put(b byte) bool {
	if len(c.told) == MaxTold {
		return false
	}
	c.told = append(c.told, b)
	return true
}
