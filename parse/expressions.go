package parse

import (
	"slices"

	"catapult/api"
)

// exprReader reads expressions, each node put behind its parts. A node's place is that of its first token, which is a bracket ahead of its first part's, if that stands in brackets.
type exprReader struct {
	typeReader
	nodes api.Tree
}

// put puts a node behind its parts.
func (r *exprReader) put(n api.Node) { r.nodes = append(r.nodes, n) }

// expression reads an expression.
func (r *exprReader) expression() {
	from := r.here()
	r.assignment()
	for r.take(comma) {
		r.assignment()
		r.put(api.Node{Kind: api.NComma, N: 2, At: from})
	}
}

// assignment reads an assignment, or what is tighter.
func (r *exprReader) assignment() {
	from := r.here()
	isCast := r.opensType()
	r.cast()
	if isCast || !isAssigning(r.word()) {
		r.rest(from)
		return
	}
	mark := r.next().Text
	r.assignment()
	r.put(api.Node{Kind: api.NAssign, N: 2, At: from, Text: mark})
}

// isAssigning tells whether a mark stands behind what is assigned to.
func isAssigning(mark string) bool {
	switch mark {
	case gives, "*=", "/=", "%=", "+=", "-=", "<<=", ">>=", "&=", "^=", "|=":
		return true
	}
	return false
}

// conditional reads a conditional, or what is tighter.
func (r *exprReader) conditional() {
	from := r.here()
	r.cast()
	r.rest(from)
}

// rest reads what is left of a conditional behind its first cast.
func (r *exprReader) rest(from int) {
	r.marked(from, 0)
	if !r.sees("?") {
		return
	}
	r.within("?", r.expression, ":")
	r.conditional()
	r.put(api.Node{Kind: api.NCond, N: 3, At: from})
}

// levels is the marks that stand between two parts, from the loosest.
var levels = [...][]string{
	{"||"}, {"&&"}, {"|"}, {"^"}, {"&"}, {"==", "!="}, {"<", ">", "<=", ">="}, {"<<", ">>"}, {"+", "-"}, {star, "/", "%"},
}

// levelOf is the level of a mark that stands between two parts; -1, if it is none.
func levelOf(mark string) int {
	for i, l := range levels {
		if slices.Contains(l, mark) {
			return i
		}
	}
	return -1
}

// marked reads marks, not looser than a level, and casts behind them, where a cast that is read is the first part.
func (r *exprReader) marked(from, loosest int) {
	for {
		mark := r.word()
		level := levelOf(mark)
		if level < loosest {
			return
		}
		r.want(mark)
		right := r.here()
		r.cast()
		r.marked(right, level+1)
		r.put(api.Node{Kind: api.NBinary, N: 2, At: from, Text: mark})
	}
}

// opensType tells whether a bracket comes next that holds a type.
func (r *exprReader) opensType() bool { return r.sees(open) && beginsBase(r.look(1)) }

// typeWithin reads a type in brackets.
func (r *exprReader) typeWithin() (t api.Type) {
	r.within(open, func() { t = r.typeName() }, shut)
	return t
}

// cast reads a cast, or what is tighter.
func (r *exprReader) cast() {
	if !r.opensType() {
		r.unary()
		return
	}
	from := r.here()
	t := r.typeWithin()
	r.cast()
	r.put(api.Node{Kind: api.NCast, N: 1, At: from, Type: t})
}

// unary reads what has a mark or sizeof ahead, or is tighter.
func (r *exprReader) unary() {
	from, mark := r.here(), r.word()
	switch {
	case r.take("++", "--"):
		r.unary()
		r.put(api.Node{Kind: api.NPre, N: 1, At: from, Text: mark})
	case r.take("&", star, "-", "~", "!"):
		r.cast()
		r.put(api.Node{Kind: api.NUnary, N: 1, At: from, Text: mark})
	case r.take("sizeof"):
		r.size(from)
	default:
		r.postfix()
	}
}

// size reads what stands behind sizeof.
func (r *exprReader) size(from int) {
	if r.opensType() {
		r.put(api.Node{Kind: api.NSizeT, At: from, Type: r.typeWithin()})
		return
	}
	r.unary()
	r.put(api.Node{Kind: api.NSizeof, N: 1, At: from})
}

// postfix reads a number, a text, a name, an expression in brackets, and what stands behind it.
func (r *exprReader) postfix() {
	from := r.here()
	r.primary()
	for r.sees("[", open, ".", "->", "++", "--") {
		r.put(r.behind(from))
	}
}

// behind reads one thing that stands behind a part: the node that both are.
func (r *exprReader) behind(from int) api.Node {
	n := api.Node{N: 1, At: from}
	switch mark := r.word(); {
	case mark == "[":
		n.Kind, n.N = api.NIndex, 2
		r.within("[", r.expression, "]")
	case mark == open:
		n.Kind, n.N = api.NCall, 1+r.arguments()
	case r.take("."):
		n.Kind, n.Text = api.NDot, r.name().Text
	case r.take("->"):
		n.Kind, n.Text = api.NArrow, r.name().Text
	default:
		n.Kind, n.Text = api.NPost, mark
		r.want(mark)
	}
	return n
}

// arguments reads a call's arguments, and tells how many there are.
func (r *exprReader) arguments() int {
	n := 0
	r.want(open)
	if !r.sees(shut) {
		n = r.list(r.assignment)
	}
	r.want(shut)
	return n
}

// primary reads a number, a text, a name, an expression in brackets.
func (r *exprReader) primary() {
	x := r.look(0)
	n := api.Node{At: x.At}
	switch x.Kind {
	case api.TokInt:
		n.Kind, n.Int, n.Type = api.NInt, x.Int, integer
		if x.Text != "" {
			n.Type = unsigned
		}
	case api.TokStr:
		n.Kind, n.Text = api.NString, x.Text
	case api.TokName:
		n.Kind, n.Text = api.NName, x.Text
	default:
		r.within(open, r.expression, shut)
		return
	}
	r.next()
	r.put(n)
}
