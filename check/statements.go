package check

import (
	"slices"

	"catapult/api"
	"catapult/types"
)

// label is a label of a switch: a case's number, or the default.
type label struct {
	of, number int
	isDefault  bool
}

// stmtTyper types the statements of a function.
type stmtTyper struct {
	exprTyper
	answer  api.Type
	numbers map[int]int   // of the cases whose expressions were come to
	labels  map[label]int // those that were come to with their statements, and where they stand
}

// typed types an expression or a statement whose parts are typed.
func (s *stmtTyper) typed(at int, parts ...done) done {
	switch n := s.nodes[at]; {
	case isExpression(n):
		v := s.exprTyper.typed(at, parts...)
		s.count(at)
		return v
	case n.Kind == api.NDecl:
		return done{statements: s.declaration(at, parts...)}
	case n.Kind == api.NNone:
		return nothing(n)
	default:
		return done{statements: []api.Tree{s.statement(at, parts...)}}
	}
}

// nothing is what stands for what is not there: no statement, or a condition that is always true.
func nothing(n api.Node) done {
	always := valueOf(integer, api.Node{Kind: api.KInt, At: n.At, Int: 1})
	return done{always, []api.Tree{build(api.Node{Kind: api.SNone, At: n.At})}}
}

// single is a part as one statement.
func (d done) single() api.Tree {
	switch len(d.statements) {
	case 0:
		return silent(api.Node{Kind: api.SExpr}, d.used().tree)
	case 1:
		return d.statements[0]
	}
	return silent(api.Node{Kind: api.SBlock}, d.statements...)
}

// statement types what comes to one statement.
func (s *stmtTyper) statement(at int, parts ...done) api.Tree {
	n := s.nodes[at]
	switch n.Kind {
	case api.NExpr:
		return build(api.Node{Kind: api.SExpr, At: n.At}, parts[0].used().tree)
	case api.NIf:
		l := []api.Tree{condition(n, parts[0])}
		for _, p := range parts[1:] {
			l = append(l, p.single())
		}
		return build(api.Node{Kind: api.SIf, At: n.At}, l...)
	case api.NWhile:
		return loop(n, nothing(n), parts[0], nothing(n), parts[1])
	case api.NDo:
		return loop(n, nothing(n), parts[1], nothing(n), parts[0])
	case api.NFor:
		return loop(n, parts...)
	case api.NSwitch:
		return s.selection(at, parts...)
	case api.NCase, api.NDefault:
		return s.labelled(at, parts...)
	case api.NBreak:
		want(s.isWithin(at, api.NWhile, api.NDo, api.NFor, api.NSwitch), n.At, api.ErrJump)
		return build(api.Node{Kind: api.SBreak, At: n.At})
	case api.NCont:
		want(s.isWithin(at, api.NWhile, api.NDo, api.NFor), n.At, api.ErrJump)
		return build(api.Node{Kind: api.SCont, At: n.At})
	case api.NReturn:
		return s.leaving(n, parts...)
	}
	return block(n, parts...)
}

// block is a block of statements.
func block(n api.Node, parts ...done) api.Tree {
	var l []api.Tree
	for _, p := range parts {
		l = append(l, p.statements...)
	}
	return build(api.Node{Kind: api.SBlock, At: n.At}, l...)
}

// condition is what a statement decides by.
func condition(n api.Node, p done) api.Tree {
	v := p.used()
	want(isScalar(v.Type), n.At, api.ErrType)
	return v.tree
}

// loop is a loop: a statement ahead, a condition, a step, a statement.
func loop(n api.Node, parts ...done) api.Tree {
	core := api.Node{Kind: api.SLoop, At: n.At}
	if n.Kind == api.NDo {
		core.Int = 1
	}
	return build(core, parts[0].single(), condition(n, parts[1]), parts[2].single(), parts[3].single())
}

// declaration types the declaration of a slot. A struct is copied behind it.
func (s *stmtTyper) declaration(at int, parts ...done) []api.Tree {
	n, slot := s.nodes[at], s.bindings[at].Index
	s.right(n.Type, n.At)
	core := api.Node{Kind: api.SDecl, At: n.At, Int: slot}
	if len(parts) == 0 {
		return []api.Tree{build(core)}
	}
	v := parts[0].used()
	if isStruct(n.Type) {
		to := placeOf(n.Type, api.Node{Kind: api.KLocal, At: n.At, Int: slot})
		return []api.Tree{build(core), silent(api.Node{Kind: api.SExpr}, copied(n.At, to, v).tree)}
	}
	return []api.Tree{build(core, v.converted(n.Type, n.At).tree)}
}

// selection types a switch.
func (s *stmtTyper) selection(at int, parts ...done) api.Tree {
	n, v := s.nodes[at], parts[0].used()
	want(types.IsInt(v.Type), n.At, api.ErrType)
	want(s.kind(at-1) == api.NBlock, n.At, api.ErrJump)
	return build(api.Node{Kind: api.SSwitch, At: n.At}, v.as(integer).tree, parts[1].single())
}

// count keeps the number of a case, if an expression is that of one.
func (s *stmtTyper) count(at int) {
	whole := s.spots[at].whole
	if s.kind(whole) != api.NCase {
		return
	}
	n, ok := s.constant(s.sub(at), integer)
	want(ok, s.nodes[at].At, api.ErrConst)
	s.numbers[whole] = n
}

// label is the label that a node is.
func (s *stmtTyper) label(at int) label {
	return label{s.switchOf(at, api.NSwitch, api.NBlock, api.NCase, api.NDefault), s.numbers[at], s.kind(at) == api.NDefault}
}

// labelled types a statement with a label.
func (s *stmtTyper) labelled(at int, parts ...done) api.Tree {
	n, l := s.nodes[at], s.label(at)
	want(l.of != nowhere, n.At, api.ErrJump)
	want(!s.isTwice(at, l), n.At, api.ErrCase)
	s.labels[l] = at
	core := api.Node{Kind: api.SCase, At: n.At, Int: l.number}
	if l.isDefault {
		core.Kind = api.SOther
	}
	return build(core, parts[len(parts)-1].single())
}

// isTwice tells whether a label stands ahead of one: it was come to, or is one of those within which that one stands.
func (s *stmtTyper) isTwice(at int, l label) bool {
	_, ok := s.labels[l]
	for at = s.spots[at].whole; !ok && (s.kind(at) == api.NCase || s.kind(at) == api.NDefault); at = s.spots[at].whole {
		ok = s.label(at) == l
	}
	return ok
}

// isWithin tells whether a node stands within one of some kinds.
func (s *stmtTyper) isWithin(at int, kinds ...int) bool {
	for at != nowhere && !slices.Contains(kinds, s.kind(at)) {
		at = s.spots[at].whole
	}
	return at != nowhere
}

// leaving types a return.
func (s *stmtTyper) leaving(n api.Node, parts ...done) api.Tree {
	want((len(parts) == 0) == (s.answer == void), n.At, api.ErrType)
	core := api.Node{Kind: api.SReturn, At: n.At}
	if len(parts) == 0 {
		return build(core)
	}
	return build(core, parts[0].used().converted(s.answer, n.At).tree)
}
