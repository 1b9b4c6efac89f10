package tree

import "catapult/api"

// statement writes a statement, or a declaration.
func (p printer) statement(at int) {
	n, l := p.nodes[at], p.parts[at]
	switch n.Kind {
	case api.NExpr:
		p.part(l[0], anyLevel)
		p.words(end)
	case api.NBlock:
		p.words("{")
		p.statements(l...)
		p.words("}")
	case api.NDecl:
		p.declaration(n, l)
	case api.NIf:
		p.condition("if", l[0])
		p.statement(l[1])
		p.otherwise(l[2:]...)
	case api.NWhile:
		p.condition("while", l[0])
		p.statement(l[1])
	case api.NDo:
		p.words("do")
		p.statement(l[0])
		p.condition("while", l[1])
		p.words(end)
	case api.NFor:
		p.loop(l)
	case api.NSwitch:
		p.condition("switch", l[0])
		p.statement(l[1])
	case api.NCase:
		p.within("case", l[0], condLevel, ":")
		p.statement(l[1])
	case api.NDefault:
		p.words("default", ":")
		p.statement(l[0])
	default:
		p.leaving(n, l)
	}
}

// statements writes statements and declarations.
func (p printer) statements(parts ...int) {
	for _, part := range parts {
		p.statement(part)
	}
}

// declaration writes the declaration of a local variable.
func (p printer) declaration(n api.Node, l []int) {
	p.declare(api.Var{Name: n.Text, Type: n.Type, Volatile: n.Int == 1})
	for _, part := range l {
		p.ahead("=", part, assignLevel)
	}
	p.words(end)
}

// condition writes a keyword and an expression in brackets behind it.
func (p printer) condition(key string, part int) {
	p.words(key)
	p.within("(", part, anyLevel, ")")
}

// otherwise writes an else, if there is one.
func (p printer) otherwise(parts ...int) {
	for _, part := range parts {
		p.words("else")
		p.statement(part)
	}
}

// loop writes a for.
func (p printer) loop(l []int) {
	p.words("for", "(")
	p.statement(l[0])
	p.perhaps(l[1])
	p.words(end)
	p.perhaps(l[2])
	p.words(")")
	p.statement(l[3])
}

// perhaps writes an expression, if there is one.
func (p printer) perhaps(at int) {
	if p.nodes[at].Kind != api.NNone {
		p.part(at, anyLevel)
	}
}

// leaving writes what leaves a loop, a switch or the function; of nothing, as the first part of a for, its end alone.
func (p printer) leaving(n api.Node, l []int) {
	switch n.Kind {
	case api.NBreak:
		p.words("break")
	case api.NCont:
		p.words("continue")
	case api.NReturn:
		p.words("return")
		for _, part := range l {
			p.part(part, anyLevel)
		}
	}
	p.words(end)
}
