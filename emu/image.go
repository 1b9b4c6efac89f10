package emu

import (
	"catapult/api"
	"catapult/mem"
	"catapult/word"
)

// What an image may be.
const (
	maxFills = 16
	topmost  = 1 << 32 // the address behind the greatest one
)

// Check tells whether an image is right.
func Check(x api.Image) api.Errno {
	_, e := memoryOf(x)
	return e
}

// memoryOf is the memory of an image, marked behind its fills; ErrImage, if the image is not right.
func memoryOf(x api.Image) (*mem.Mem, api.Errno) {
	m, e := mem.New(x.Ranges)
	if e != api.OK || sizeOf(x.Ranges) > MaxMemory || len(x.Fills) > maxFills || !isAddress(x.Entry) {
		return nil, api.ErrImage
	}
	for _, f := range x.Fills {
		if !fill(m, f) {
			return nil, api.ErrImage
		}
	}
	m.Mark()
	return m, api.OK
}

// fill puts a fill's bytes where they stand, if they lie in one range. One without bytes has none that lies elsewhere.
func fill(m *mem.Mem, f api.Fill) bool {
	if len(f.Bytes) == 0 {
		return true
	}
	return isAddress(f.At) && m.Fill(word.Of(f.At), f.Bytes) == api.OK
}

// sizeOf is how many bytes ranges have in all.
func sizeOf(l []api.Range) int {
	size := 0
	for _, r := range l {
		size += r.Size
	}
	return size
}

// isAddress tells whether a number is an address.
func isAddress(at int) bool { return 0 <= at && at < topmost }
