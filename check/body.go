package check

import (
	"slices"

	"catapult/api"
	"catapult/fold"
)

// How many nodes a function's body has at most, and how deep it is.
const (
	maxNodes = 8 * api.MaxNodes
	maxNest  = 8 * api.MaxNest
)

// body is the body of a function that is looked at.
type body struct {
	*judge
	located
	slots  []api.Slot
	answer api.Type
	labels map[label]int
}

// isRight tells whether the body is right.
func (b *body) isRight(t api.Tree) bool {
	if len(t) > maxNodes {
		return false
	}
	l, ok := locate(t)
	if !ok || root(t).Kind != api.SBlock || l.depth() > maxNest {
		return false
	}
	b.located = l
	var done []api.Node
	for at, n := range t {
		rest := len(done) - n.N
		if !b.node(at, done[rest:]...) {
			return false
		}
		done = append(done[:rest], n)
	}
	return true
}

// isValue tells whether a node is that of a value.
func isValue(n api.Node) bool { return n.Kind <= api.KBuilt }

// values is how many nodes of a tree are those of values.
func values(t api.Tree) int {
	n := 0
	for _, x := range t {
		if isValue(x) {
			n++
		}
	}
	return n
}

// node tells whether a node is right behind parts that are.
func (b *body) node(at int, parts ...api.Node) bool {
	n := b.nodes[at]
	if !isPlain(n) {
		return false
	}
	if !isValue(n) {
		return n.Type == "" && b.statement(at, parts...)
	}
	var l []api.Type
	for _, p := range parts {
		if !isValue(p) {
			return false
		}
		l = append(l, p.Type)
	}
	isSet := n.Kind == api.KBuilt && n.Text == setjmp
	return n.Type != "" && n.Type == b.made(n, l...) && (!isSet || b.maySet(at))
}

// statement tells whether a statement is right.
func (b *body) statement(at int, parts ...api.Node) bool {
	n := b.nodes[at]
	switch n.Kind {
	case api.SExpr:
		return fit("e", parts...)
	case api.SBlock:
		return !slices.ContainsFunc(parts, isValue)
	case api.SDecl:
		return b.declaration(n, parts...)
	case api.SIf:
		return (fit("es", parts...) || fit("ess", parts...)) && isScalar(parts[0].Type)
	case api.SLoop:
		return fit("sess", parts...) && isScalar(parts[1].Type) && (n.Int == 0 || n.Int == 1)
	case api.SSwitch:
		return fit("es", parts...) && parts[0].Type == integer && parts[1].Kind == api.SBlock
	case api.SCase, api.SOther:
		return fit("s", parts...) && b.labelled(at)
	case api.SBreak:
		return fit("", parts...) && b.isWithin(at, api.SLoop, api.SSwitch)
	case api.SCont:
		return fit("", parts...) && b.isWithin(at, api.SLoop)
	case api.SReturn:
		return b.leaving(parts...)
	}
	s := b.spots[at]
	return n.Kind == api.SNone && fit("", parts...) && b.kind(s.whole) == api.SLoop && isAside(s.rank)
}

// fit tells whether parts are values (e) and statements (s) as a word says.
func fit(word string, parts ...api.Node) bool {
	return slices.EqualFunc([]byte(word), parts, func(letter byte, n api.Node) bool { return isValue(n) == (letter == 'e') })
}

// isAside tells whether a part of a loop is the statement ahead, or the step.
func isAside(rank int) bool { return rank == 0 || rank == 2 }

// declaration tells whether the declaration of a slot is right.
func (b *body) declaration(n api.Node, parts ...api.Node) bool {
	if !b.hasSlot(n.Int) || b.slots[n.Int].Param {
		return false
	}
	return fit("", parts...) || fit("e", parts...) && parts[0].Type == b.slots[n.Int].Type
}

// hasSlot tells whether there is a slot of a number.
func (b *body) hasSlot(n int) bool { return 0 <= n && n < len(b.slots) }

// labelled tells whether a label stands where it may.
func (b *body) labelled(at int) bool {
	n := b.nodes[at]
	l := label{b.switchOf(at, api.SSwitch, api.SBlock, api.SCase, api.SOther), n.Int, n.Kind == api.SOther}
	_, isThere := b.labels[l]
	b.labels[l] = at
	return l.of != nowhere && !isThere && isInRange(n.Int, integer)
}

// isInRange tells whether a number is one of a whole-number type.
func isInRange(n int, t api.Type) bool {
	m, e := fold.Convert(n, t)
	return e == api.OK && m == n
}

// isWithin tells whether a statement stands within one of some kinds. What stands ahead of a loop, or is its step, is within none.
func (b *body) isWithin(at int, kinds ...int) bool {
	for s := b.spots[at]; s.whole != nowhere; s = b.spots[s.whole] {
		kind := b.kind(s.whole)
		if kind == api.SLoop && isAside(s.rank) {
			return false
		}
		if slices.Contains(kinds, kind) {
			return true
		}
	}
	return false
}

// leaving tells whether a return is right.
func (b *body) leaving(parts ...api.Node) bool {
	if b.answer == void {
		return fit("", parts...)
	}
	return fit("e", parts...) && parts[0].Type == b.answer
}

// maySet tells whether setjmp may be called by a node: its answer goes nowhere, or decides, with constants alone, what is done.
func (b *body) maySet(at int) bool {
	for {
		whole := b.spots[at].whole
		switch b.kind(whole) {
		case api.SExpr, api.SIf, api.SLoop, api.SSwitch:
			return true
		case api.KNot, api.KConv:
		case api.KLt, api.KLe, api.KEq, api.KNe:
			if slices.ContainsFunc(b.sub(b.sibling(at)), isNoConstant) {
				return false
			}
		default:
			return false
		}
		at = whole
	}
}

// isNoConstant tells whether a node is of a kind that no constant expression has.
func isNoConstant(n api.Node) bool {
	switch n.Kind {
	case api.KInt, api.KNull, api.KBoth, api.KOne, api.KCond:
		return false
	}
	return n.Kind < api.KConv || n.Kind > api.KNe
}
