package tree

import (
	"slices"

	"catapult/api"
)

// places is the parts of each node of a tree, as the places where they end.
type places [][]int

// from is the place where the part begins that ends at a place.
func (p places) from(at int) int {
	for len(p[at]) > 0 {
		at = p[at][0]
	}
	return at
}

// all goes over all nodes, each whole ahead of its parts.
func (p places) all(yield func(at, depth int) bool) {
	p.under(len(p)-1, 1, yield)
}

// under goes over the part that ends at a place; false, if it was left.
func (p places) under(at, depth int, yield func(at, depth int) bool) bool {
	if !yield(at, depth) {
		return false
	}
	for _, part := range p[at] {
		if !p.under(part, depth+1, yield) {
			return false
		}
	}
	return true
}

// depths is how deep each node's part is.
func (p places) depths() []int {
	l := make([]int, len(p))
	for at, parts := range p {
		for _, part := range parts {
			l[at] = max(l[at], l[part])
		}
		l[at]++
	}
	return l
}

// grown is a tree whose parts are known.
type grown struct {
	nodes api.Tree
	parts places
}

// take takes a tree apart, if it is right.
func take(t api.Tree) (grown, api.Errno) {
	if len(t) > api.MaxNodes {
		return grown{}, api.ErrLong
	}
	g, ok := grow(t)
	if !ok || slices.ContainsFunc(t, isWrong) || !g.fits() {
		return grown{}, api.ErrTree
	}
	if slices.Max(g.parts.depths()) > api.MaxNest {
		return grown{}, api.ErrLong
	}
	return g, api.OK
}

// takeAt takes a tree apart, if it is right and has such a place.
func takeAt(t api.Tree, at int) (grown, api.Errno) {
	g, e := take(t)
	if e != api.OK {
		return grown{}, e
	}
	if at < 0 || at >= len(t) {
		return grown{}, api.ErrRange
	}
	return g, api.OK
}

// grow finds the parts of a tree's nodes; false, if it is not well formed.
func grow(t api.Tree) (grown, bool) {
	g := grown{nodes: t, parts: make(places, len(t))}
	var free []int // the wholes that are no parts yet
	for at, n := range t {
		if !hasParts(n.Kind, n.N) || n.N > len(free) {
			return grown{}, false
		}
		rest := len(free) - n.N
		g.parts[at] = slices.Clone(free[rest:])
		free = append(free[:rest], at)
	}
	return g, len(free) == 1
}

// isWrong tells whether a node is not right by itself.
func isWrong(n api.Node) bool { return !isRight(n) }

// fits tells whether the parts of all nodes fit.
func (g grown) fits() bool {
	open := g.openIfs()
	for at, parts := range g.parts {
		n := g.nodes[at]
		for i, part := range parts {
			if !may(g.nodes[part].Kind, partOf(n.Kind, i)) {
				return false
			}
		}
		if n.Kind == api.NIf && n.N == 3 && open[parts[1]] {
			return false
		}
	}
	return true
}

// openIfs tells of each node whether it ends by an if without an else, to which an else behind it would belong.
func (g grown) openIfs() []bool {
	open := make([]bool, len(g.nodes))
	for at, n := range g.nodes {
		switch n.Kind {
		case api.NIf, api.NWhile, api.NFor, api.NSwitch, api.NCase, api.NDefault:
			open[at] = n.Kind == api.NIf && n.N == 2 || open[g.parts[at][n.N-1]]
		}
	}
	return open
}

// whole is the node of a whole tree that is right.
func whole(t api.Tree) api.Node { return t[len(t)-1] }

// last is the place of the whole.
func (g grown) last() int { return len(g.nodes) - 1 }
