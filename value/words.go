package value

import "catapult/word"

// What operations make of two words. Those whose name ends in U take them from 0 on, those that have such a twin with their signs.

func sum(a, b uint32) uint32 {
	w, _ := word.Add(a, b)
	return w
}

func difference(a, b uint32) uint32 {
	w, _ := word.Sub(a, b)
	return w
}

func product(a, b uint32) uint32 {
	w, _ := word.Mul(a, b)
	return w
}

func quotient(a, b uint32) uint32 {
	w, _, _ := word.Div(a, b)
	return w
}

func quotientU(a, b uint32) uint32 {
	w, _, _ := word.DivU(a, b)
	return w
}

func rest(a, b uint32) uint32 {
	_, w, _ := word.Div(a, b)
	return w
}

func restU(a, b uint32) uint32 {
	_, w, _ := word.DivU(a, b)
	return w
}

func and(a, b uint32) uint32 { return a & b }

func or(a, b uint32) uint32 { return a | b }

func xor(a, b uint32) uint32 { return a ^ b }

func below(a, b uint32) uint32 { return bit(word.Lt(a, b)) }

func belowU(a, b uint32) uint32 { return bit(a < b) }

func upTo(a, b uint32) uint32 { return bit(!word.Lt(b, a)) }

func upToU(a, b uint32) uint32 { return bit(a <= b) }

func equal(a, b uint32) uint32 { return bit(a == b) }

func unequal(a, b uint32) uint32 { return bit(a != b) }

// bit is 1 of what is so, else 0.
func bit(ok bool) uint32 {
	if ok {
		return 1
	}
	return 0
}
