package fold

import "catapult/word"

// Groups of binary operations, by what becomes of the types of their parts.
const (
	noGroup    = iota // no operation
	arithmetic        // of the type in which the parts meet
	shifting          // of the left part's type
	comparing         // the parts meet, too, but the answer is 1 or 0
	deciding          // the second part is looked at only if it is needed
)

// groupOf is the group of a binary operation.
func groupOf(mark string) int {
	switch mark {
	case "*", "/", "%", "+", "-", "&", "^", "|":
		return arithmetic
	case "<<", ">>":
		return shifting
	case "<", ">", "<=", ">=", "==", "!=":
		return comparing
	case "&&", "||":
		return deciding
	}
	return noGroup
}

// isUnary tells whether a mark is that of a unary operation on numbers.
func isUnary(mark string) bool { return mark == "-" || mark == "~" || mark == "!" }

// unary is what an operation on a value comes to; of no type, if there is no such operation on numbers.
func unary(mark string, a value) value {
	switch mark {
	case "-":
		w, _ := word.Sub(0, a.word())
		return a.promoted().result(w, a.byNought)
	case "~":
		return a.promoted().result(^a.word(), a.byNought)
	case "!":
		return signed.result(bit(a.n == 0), a.byNought)
	}
	return value{}
}

// binary is what an operation on two values comes to.
func binary(mark string, a, b value) value {
	t, byNought := a.meet(b.integer), a.byNought || b.byNought
	switch groupOf(mark) {
	case arithmetic:
		w, ok := t.reckon(mark, a.word(), b.word())
		return t.result(w, byNought || !ok)
	case shifting:
		return a.promoted().result(a.shift(mark, a.word(), b.word()), byNought)
	case comparing:
		return signed.result(bit(compare(mark, a.as(t).n, b.as(t).n)), byNought)
	}
	return decide(mark, a, b)
}

// reckon is what an arithmetic operation on two words of the type comes to; false by nought.
func (t integer) reckon(mark string, a, b uint32) (uint32, bool) {
	w, ok := a, true
	switch mark {
	case "*":
		w, _ = word.Mul(a, b)
	case "/":
		w, _, ok = t.divide(a, b)
	case "%":
		_, w, ok = t.divide(a, b)
	case "+":
		w, _ = word.Add(a, b)
	case "-":
		w, _ = word.Sub(a, b)
	case "&":
		w = a & b
	case "^":
		w = a ^ b
	case "|":
		w = a | b
	}
	return w, ok
}

// compare holds two numbers of one type against each other.
func compare(mark string, a, b int) bool {
	switch mark {
	case "<":
		return a < b
	case ">":
		return a > b
	case "<=":
		return a <= b
	case ">=":
		return a >= b
	case "==":
		return a == b
	}
	return a != b
}

// decide is what && and || come to: the first part alone tells, if it can, else the second one.
func decide(mark string, a, b value) value {
	last := b
	if a.byNought || (a.n != 0) == (mark == "||") {
		last = a
	}
	return signed.result(bit(last.n != 0), last.byNought)
}

// choose is the one of two values that a condition picks, in the type in which both meet.
func choose(condition, yes, no value) value {
	picked := no
	switch {
	case condition.byNought:
		picked = condition
	case condition.n != 0:
		picked = yes
	}
	return picked.as(yes.meet(no.integer))
}

// bit is 1 of what is so, else 0.
func bit(ok bool) uint32 {
	if ok {
		return 1
	}
	return 0
}
