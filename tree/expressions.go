package tree

import "catapult/api"

// part writes an expression, in brackets if it is looser than the level.
func (p printer) part(at, loosest int) {
	brackets := level(p.nodes[at]) < loosest
	p.when(brackets, "(")
	p.bare(at)
	p.when(brackets, ")")
}

// bare writes an expression without brackets around it.
func (p printer) bare(at int) {
	n, l := p.nodes[at], p.parts[at]
	switch n.Kind {
	case api.NInt:
		p.number(n)
	case api.NString:
		p.tokens(api.Token{Kind: api.TokStr, Text: n.Text})
	case api.NName:
		p.words(n.Text)
	case api.NUnary:
		p.ahead(n.Text, l[0], castLevel)
	case api.NPre:
		p.ahead(n.Text, l[0], unaryLevel)
	case api.NSizeof:
		p.ahead("sizeof", l[0], unaryLevel)
	case api.NSizeT:
		p.words("sizeof")
		p.typeName(n.Type)
	case api.NCast:
		p.typeName(n.Type)
		p.part(l[0], castLevel)
	case api.NBinary:
		p.between(l, binaryLevel(n.Text), n.Text, binaryLevel(n.Text)+1)
	case api.NAssign:
		p.between(l, unaryLevel, n.Text, assignLevel)
	case api.NComma:
		p.between(l, anyLevel, comma, assignLevel)
	case api.NCond:
		p.part(l[0], oneLevel)
		p.within("?", l[1], anyLevel, ":")
		p.part(l[2], condLevel)
	default:
		p.behind(n, l)
	}
}

// ahead writes an expression with a mark ahead of its part.
func (p printer) ahead(mark string, part, loosest int) {
	p.words(mark)
	p.part(part, loosest)
}

// between writes an expression with a mark between its parts.
func (p printer) between(parts []int, left int, mark string, right int) {
	p.part(parts[0], left)
	p.ahead(mark, parts[1], right)
}

// within writes a part between two marks.
func (p printer) within(open string, part, loosest int, shut string) {
	p.ahead(open, part, loosest)
	p.words(shut)
}

// behind writes an expression with something behind its first part.
func (p printer) behind(n api.Node, l []int) {
	p.part(l[0], tightLevel)
	switch n.Kind {
	case api.NPost:
		p.words(n.Text)
	case api.NDot:
		p.words(".", n.Text)
	case api.NArrow:
		p.words("->", n.Text)
	case api.NIndex:
		p.within("[", l[1], anyLevel, "]")
	case api.NCall:
		p.words("(")
		for i, part := range l[1:] {
			p.when(i > 0, comma)
			p.part(part, assignLevel)
		}
		p.words(")")
	}
}

// number writes a number, or a character below 0.
func (p printer) number(n api.Node) {
	x := api.Token{Kind: api.TokInt, Int: n.Int}
	if n.Type == unsigned {
		x.Text = string(unsigned)
	}
	p.tokens(x)
}
