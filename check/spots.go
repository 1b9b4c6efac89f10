package check

import (
	"slices"

	"catapult/api"
)

// nowhere is the place of what has none.
const nowhere = -1

// spot is where a node of a tree stands: of which whole it is a part (nowhere: of none), which part of that it is, and where its own nodes begin.
type spot struct{ whole, rank, from int }

// located is a tree whose nodes' spots are known.
type located struct {
	nodes api.Tree
	spots []spot
}

// locate finds the spots of a tree's nodes; false, if the tree is not well formed.
func locate(t api.Tree) (located, bool) {
	l := make([]spot, len(t))
	var free []int // the wholes that are no parts yet
	for at, n := range t {
		rest := len(free) - n.N
		if n.N < 0 || rest < 0 {
			return located{}, false
		}
		l[at] = spot{whole: nowhere, from: at}
		for rank, part := range free[rest:] {
			l[part].whole, l[part].rank = at, rank
		}
		if n.N > 0 {
			l[at].from = l[free[rest]].from
		}
		free = append(free[:rest], at)
	}
	return located{t, l}, len(free) == 1
}

// kind is the kind of a node; none of what stands nowhere.
func (l located) kind(at int) int {
	if at == nowhere {
		return 0
	}
	return l.nodes[at].Kind
}

// sub is the part that ends at a node.
func (l located) sub(at int) api.Tree { return l.nodes[l.spots[at].from : at+1] }

// sibling is where the other part of a whole of two ends.
func (l located) sibling(at int) int {
	if s := l.spots[at]; s.rank == 0 {
		return s.whole - 1
	}
	return l.spots[at].from - 1
}

// around is the innermost whole around a node that is of none of some kinds.
func (l located) around(at int, kinds ...int) int {
	whole := l.spots[at].whole
	for slices.Contains(kinds, l.kind(whole)) {
		whole = l.spots[whole].whole
	}
	return whole
}

// switchOf is the switch whose own block a label stands in, perhaps behind other labels, or whose statement it is; nowhere, if there is none.
func (l located) switchOf(at, isSwitch, isBlock int, labels ...int) int {
	whole := l.around(at, labels...)
	if l.kind(whole) == isBlock {
		whole = l.around(whole)
	}
	if l.kind(whole) != isSwitch {
		return nowhere
	}
	return whole
}

// depth is how deep the tree is.
func (l located) depth() int {
	deep := make([]int, len(l.spots))
	for at, s := range slices.Backward(l.spots) {
		deep[at] = 1
		if s.whole != nowhere {
			deep[at] += deep[s.whole]
		}
	}
	return slices.Max(deep)
}
