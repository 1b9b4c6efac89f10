package check_test

import (
	"slices"
	"strconv"
	"strings"
	"testing"

	"catapult/api"
	"catapult/check"
	"catapult/fold"
	"catapult/names"
	"catapult/tree"
	"catapult/types"
)

// The plainest reckoning: syntax trees are nested, and gone over from the whole on; what is wrong comes as an error through all calls; core trees are nested, too.

// nested is a syntax tree: a node and its parts; where it stands in the list of nodes, and in the order of the text.
type nested struct {
	api.Node
	parts    []*nested
	at, text int
	list     api.Tree // its nodes
	of       *nested  // of a label: the switch whose it is
	mayBreak bool
	mayCont  bool
	maySet   bool
}

// nest is a tree, nested.
func nest(t api.Tree) *nested {
	var free []*nested
	for at, n := range t {
		x := &nested{Node: n, at: at, list: t[at : at+1]}
		rest := len(free) - n.N
		x.parts = slices.Clone(free[rest:])
		if n.N > 0 {
			first := at + 1 - len(x.list)
			for _, p := range x.parts {
				first -= len(p.list)
			}
			x.list = t[first : at+1]
		}
		free = append(free[:rest], x)
	}
	number := 0
	var walk func(*nested)
	walk = func(x *nested) {
		x.text = number
		number++
		for _, p := range x.parts {
			walk(p)
		}
	}
	walk(free[0])
	return free[0]
}

// knot is a nested core tree.
type knot struct {
	api.Node
	parts []knot
}

// flat is a core tree's list of nodes.
func (k knot) flat() api.Tree {
	var l api.Tree
	for _, p := range k.parts {
		l = append(l, p.flat()...)
	}
	k.N = len(k.parts)
	return append(l, k.Node)
}

// expression is what an expression is: its type, its core tree, and what it may be.
type expression struct {
	typed   string
	core    knot
	place   bool
	nothing bool
}

// trouble is the first fault; it is none, if its code is OK.
type trouble = api.Fault

// plain is what is known of a unit.
type plain struct {
	u        api.Unit
	funcs    []api.Func
	strings  []string
	stands   map[*nested]api.Binding
	answer   string
	switches []*nested // the labels of the function
}

// bad is a fault at a node.
func bad(x *nested, code api.Errno) trouble { return trouble{At: x.At, Code: code} }

// fine is no fault.
var fine trouble

// pointee is what a pointer points to, with ok.
func pointee(s string) (string, bool) { return strings.CutPrefix(s, "p") }

// isNumber tells whether a type is one of whole numbers.
func isNumber(s string) bool { return s == "c" || s == "s" || s == "i" || s == "u" }

// isScalarType tells whether a type is a number's or a pointer's.
func isScalarType(s string) bool { return isNumber(s) || s[0] == 'p' }

// size is the size of a type, 0 if it has none.
func (p *plain) size(s string) int {
	n, _, e := types.Size(api.Type(s), p.u.Structs)
	if e != api.OK {
		return 0
	}
	return n
}

// above is a core node over parts; At is that of the first part.
func above(kind int, typed string, parts ...knot) knot {
	return knot{api.Node{Kind: kind, Type: api.Type(typed), At: parts[0].At}, parts}
}

// at is a core node at a syntax node's place.
func (x *nested) core(kind int, typed string, parts ...knot) knot {
	return knot{api.Node{Kind: kind, Type: api.Type(typed), At: x.At}, parts}
}

// value is an expression used as a value.
func value(e expression) expression {
	first := e.typed[0]
	switch {
	case first == 'f':
		return expression{typed: "p" + e.typed, core: e.core}
	case e.place && isScalarType(e.typed):
		return expression{typed: e.typed, core: above(api.KLoad, e.typed, e.core)}
	case e.place && first == 'a':
		_, elem, _ := strings.Cut(e.typed, ":")
		return expression{typed: "p" + elem, core: above(api.KField, "p"+elem, e.core)}
	case e.place && first == 'j':
		return expression{typed: "pj", core: e.core}
	}
	e.place = false
	return e
}

// convert is a value as one of a type, with ok.
func convert(e expression, to string) (expression, bool) {
	from, isFrom := pointee(e.typed)
	target, isTo := pointee(to)
	switch {
	case e.typed == to:
		return e, true
	case isNumber(e.typed) && isNumber(to):
	case e.nothing && isTo:
		return expression{typed: to, core: knot{Node: api.Node{Kind: api.KNull, At: e.core.At, Type: api.Type(to)}}}, true
	case isFrom && isTo && from[0] != 'f' && target[0] != 'f' && (from == "v" || target == "v"):
	default:
		return e, false
	}
	return expression{typed: to, core: above(api.KConv, to, e.core)}, true
}

// number is a value as a number of a type; it is one of some type.
func number(e expression, to string) knot {
	x, _ := convert(e, to)
	return x.core
}

// up is a whole-number type promoted.
func up(s string) string {
	if s == "u" {
		return "u"
	}
	return "i"
}

// meeting is the common type of two whole-number types.
func meeting(a, b string) string {
	if a == "u" || b == "u" {
		return "u"
	}
	return "i"
}

// alike is two values as ones of one type, as == and conditionals have it, with ok.
func alike(a, b expression) (expression, expression, bool) {
	if isNumber(a.typed) && isNumber(b.typed) {
		t := meeting(a.typed, b.typed)
		a, _ = convert(a, t)
		b, _ = convert(b, t)
		return a, b, true
	}
	_, isA := pointee(a.typed)
	_, isB := pointee(b.typed)
	var ok bool
	switch {
	case isA && a.typed == b.typed:
		return a, b, true
	case isA && (b.nothing || b.typed == "pv"):
		b, ok = convert(b, a.typed)
	case isB && (a.nothing || a.typed == "pv"):
		a, ok = convert(a, b.typed)
	}
	return a, b, ok
}

// operations is the kinds of nodes of the binary marks.
var operations = map[string]int{"*": api.KMul, "/": api.KDiv, "%": api.KRem, "+": api.KAdd, "-": api.KSub, "&": api.KAnd, "|": api.KOr, "^": api.KXor, "<<": api.KShl, ">>": api.KShr, "<": api.KLt, "<=": api.KLe, "==": api.KEq, "!=": api.KNe, "&&": api.KBoth, "||": api.KOne}

// expr types an expression, its parts first.
func (p *plain) expr(x *nested) (expression, trouble) {
	if x.Kind == api.NCall && x.parts[0].Kind == api.NName && p.stands[x.parts[0]].Kind == api.NameBuilt {
		return p.builtCall(x)
	}
	count := len(p.strings)
	var l []expression
	for _, part := range x.parts {
		e, f := p.expr(part)
		if f != fine {
			return e, f
		}
		l = append(l, e)
	}
	e, code := p.whole(x, l)
	if code != api.OK {
		return e, bad(x, code)
	}
	if x.Kind == api.NSizeof {
		p.strings = p.strings[:count]
	}
	return e, fine
}

// whole types an expression whose parts are typed, or tells an error at it.
func (p *plain) whole(x *nested, l []expression) (expression, api.Errno) {
	var v []expression
	for _, e := range l {
		v = append(v, value(e))
	}
	switch x.Kind {
	case api.NInt:
		k := x.core(api.KInt, string(x.Type))
		k.Int = x.Int
		return expression{typed: string(x.Type), core: k, nothing: x.Int == 0 && x.Type == "i"}, api.OK
	case api.NString:
		p.strings = append(p.strings, x.Text)
		t := "a" + strconv.Itoa(len(x.Text)+1) + ":c"
		k := x.core(api.KString, "p"+t)
		k.Int = len(p.strings) - 1
		return expression{typed: t, core: k, place: true}, api.OK
	case api.NName:
		return p.named(x)
	case api.NUnary:
		return p.unary(x, l[0], v[0])
	case api.NPre, api.NPost:
		return p.increment(x, l[0])
	case api.NBinary:
		return p.binary(x, x.Text, v[0], v[1])
	case api.NAssign:
		return p.assign(x, l[0], v[1])
	case api.NCond:
		return p.cond(x, v)
	case api.NComma:
		return expression{typed: v[1].typed, core: x.core(api.KComma, string(v[1].core.Type), v[0].core, v[1].core)}, api.OK
	case api.NCall:
		return call(x, v)
	case api.NIndex:
		e, code := p.binary(x, "+", v[0], v[1])
		t, ok := pointee(e.typed)
		if code != api.OK || !ok {
			return e, api.ErrType
		}
		return expression{typed: t, core: e.core, place: true}, api.OK
	case api.NDot:
		if !l[0].place || l[0].typed[0] != 'S' {
			return l[0], api.ErrType
		}
		return p.member(x, l[0].typed, l[0].core)
	case api.NArrow:
		t, ok := pointee(v[0].typed)
		if !ok || t[0] != 'S' {
			return v[0], api.ErrType
		}
		return p.member(x, t, v[0].core)
	case api.NCast:
		return p.cast(x, v[0])
	case api.NSizeof:
		return p.sizeOf(x, l[0].typed)
	}
	return p.sizeOf(x, string(x.Type))
}

// named types a name that is not called as a built-in one.
func (p *plain) named(x *nested) (expression, api.Errno) {
	b := p.stands[x]
	switch b.Kind {
	case api.NameSlot:
		k := x.core(api.KLocal, "p"+string(b.Type))
		k.Int = b.Index
		return expression{typed: string(b.Type), core: k, place: true}, api.OK
	case api.NameGlobal:
		k := x.core(api.KGlobal, "p"+string(b.Type))
		k.Text = x.Text
		return expression{typed: string(b.Type), core: k, place: true}, api.OK
	case api.NameFunc:
		if len(p.funcs[b.Index].Body) > 0 {
			k := x.core(api.KFunc, "p"+string(b.Type))
			k.Text = x.Text
			return expression{typed: string(b.Type), core: k}, api.OK
		}
	}
	return expression{}, api.ErrName
}

// unary types - ~ ! & *.
func (p *plain) unary(x *nested, e, v expression) (expression, api.Errno) {
	t, isPointer := pointee(v.typed)
	switch {
	case x.Text == "&" && e.typed[0] == 'f':
		return v, api.OK
	case x.Text == "&" && e.place:
		return expression{typed: "p" + e.typed, core: e.core}, api.OK
	case x.Text == "&":
		return v, api.ErrLvalue
	case x.Text == "*" && isPointer && t[0] == 'f':
		return expression{typed: t, core: v.core}, api.OK
	case x.Text == "*" && isPointer && t != "v":
		return expression{typed: t, core: v.core, place: true}, api.OK
	case x.Text == "!" && isScalarType(v.typed):
		return expression{typed: "i", core: x.core(api.KNot, "i", v.core)}, api.OK
	case x.Text == "-" && isNumber(v.typed):
		return expression{typed: up(v.typed), core: x.core(api.KNeg, up(v.typed), number(v, up(v.typed)))}, api.OK
	case x.Text == "~" && isNumber(v.typed):
		return expression{typed: up(v.typed), core: x.core(api.KCompl, up(v.typed), number(v, up(v.typed)))}, api.OK
	}
	return v, api.ErrType
}

// increment types ++ and --.
func (p *plain) increment(x *nested, e expression) (expression, api.Errno) {
	if !e.place || !isScalarType(e.typed) {
		return e, api.ErrLvalue
	}
	k := x.core(api.KIncr, e.typed, e.core)
	k.Int = 1
	if t, ok := pointee(e.typed); ok {
		k.Int = p.size(t)
	}
	if k.Int == 0 {
		return e, api.ErrType
	}
	if x.Text == "--" {
		k.Int *= -1
	}
	k.Text = map[int]string{api.NPre: "pre", api.NPost: "post"}[x.Kind]
	return expression{typed: e.typed, core: k}, api.OK
}

// offset is a number as that by which a pointer is moved.
func offset(mark string, v expression) knot {
	k := number(v, "i")
	if mark == "-" {
		k = above(api.KNeg, "i", k)
	}
	return k
}

// binary types an operation on two values.
func (p *plain) binary(x *nested, mark string, a, b expression) (expression, api.Errno) {
	if turned, ok := map[string]string{">": "<=", ">=": "<"}[mark]; ok {
		e, code := p.binary(x, turned, a, b)
		return expression{typed: "i", core: x.core(api.KNot, "i", e.core)}, code
	}
	kind := operations[mark]
	areNumbers := isNumber(a.typed) && isNumber(b.typed)
	to, isA := pointee(a.typed)
	_, isB := pointee(b.typed)
	is := func(typed string, k knot) (expression, api.Errno) { return expression{typed: typed, core: k}, api.OK }
	switch mark {
	case "&&", "||":
		if isScalarType(a.typed) && isScalarType(b.typed) {
			return is("i", x.core(kind, "i", a.core, b.core))
		}
		return a, api.ErrType
	case "==", "!=":
		a, b, ok := alike(a, b)
		if !ok {
			return a, api.ErrType
		}
		return is("i", x.core(kind, "i", a.core, b.core))
	case "<<", ">>":
		if areNumbers {
			return is(up(a.typed), x.core(kind, up(a.typed), number(a, up(a.typed)), number(b, "i")))
		}
		return a, api.ErrType
	}
	if areNumbers {
		t := meeting(a.typed, b.typed)
		answer := t
		if mark == "<" || mark == "<=" {
			answer = "i"
		}
		return is(answer, x.core(kind, answer, number(a, t), number(b, t)))
	}
	if mark == "+" && isB && isNumber(a.typed) {
		return p.binary(x, mark, b, a)
	}
	if !isA || p.size(to) == 0 {
		return a, api.ErrType
	}
	switch {
	case (mark == "<" || mark == "<=") && a.typed == b.typed:
		return is("i", x.core(kind, "i", a.core, b.core))
	case mark == "-" && a.typed == b.typed:
		k := x.core(api.KMinus, "i", a.core, b.core)
		k.Int = p.size(to)
		return is("i", k)
	case (mark == "+" || mark == "-") && isNumber(b.typed):
		k := x.core(api.KPlus, a.typed, a.core, offset(mark, b))
		k.Int = p.size(to)
		return is(a.typed, k)
	}
	return a, api.ErrType
}

// assign types an assignment.
func (p *plain) assign(x *nested, to, v expression) (expression, api.Errno) {
	is := func(k knot) (expression, api.Errno) { return expression{typed: to.typed, core: k}, api.OK }
	mark, _ := strings.CutSuffix(x.Text, "=")
	isStruct := to.typed[0] == 'S' && mark == ""
	if !to.place || !isStruct && !isScalarType(to.typed) {
		return to, api.ErrLvalue
	}
	if isStruct {
		if v.typed != to.typed {
			return to, api.ErrType
		}
		return is(x.core(api.KCopy, "p"+to.typed, to.core, v.core))
	}
	if mark == "" {
		v, ok := convert(v, to.typed)
		if !ok {
			return to, api.ErrType
		}
		return is(x.core(api.KStore, to.typed, to.core, v.core))
	}
	k := x.core(api.KUpdate, to.typed, to.core, knot{})
	k.Int = operations[mark]
	t, isPointer := pointee(to.typed)
	switch {
	case !isNumber(v.typed):
		return to, api.ErrType
	case isPointer && (mark == "+" || mark == "-") && p.size(t) > 0:
		k.Int, k.Text, k.parts[1] = api.KPlus, strconv.Itoa(p.size(t)), offset(mark, v)
	case isPointer:
		return to, api.ErrType
	case mark == "<<" || mark == ">>":
		k.Text, k.parts[1] = up(to.typed), number(v, "i")
	default:
		k.Text, k.parts[1] = meeting(to.typed, v.typed), number(v, meeting(to.typed, v.typed))
	}
	return is(k)
}

// cond types a conditional.
func (p *plain) cond(x *nested, v []expression) (expression, api.Errno) {
	a, b := v[1], v[2]
	ok := a.typed == b.typed && (a.typed == "v" || a.typed[0] == 'S')
	if !ok {
		a, b, ok = alike(a, b)
	}
	if !ok || !isScalarType(v[0].typed) {
		return a, api.ErrType
	}
	return expression{typed: a.typed, core: x.core(api.KCond, string(a.core.Type), v[0].core, a.core, b.core)}, api.OK
}

// call types the call of a function by its address.
func call(x *nested, v []expression) (expression, api.Errno) {
	t, _ := pointee(v[0].typed)
	answer, params, e := types.Sign(api.Type(t))
	if e != api.OK {
		return v[0], api.ErrType
	}
	l, ok := arguments(params, v[1:])
	if !ok {
		return v[0], api.ErrType
	}
	return expression{typed: string(answer), core: x.core(api.KCall, string(answer), append([]knot{v[0].core}, l...)...)}, api.OK
}

// arguments is values as a function's arguments, with ok.
func arguments(params []api.Type, v []expression) ([]knot, bool) {
	if len(params) != len(v) {
		return nil, false
	}
	var l []knot
	for i, t := range params {
		e, ok := convert(v[i], string(t))
		if !ok {
			return nil, false
		}
		l = append(l, e.core)
	}
	return l, true
}

// builtCall types the call of a built-in function.
func (p *plain) builtCall(x *nested) (expression, trouble) {
	var v []expression
	for _, part := range x.parts[1:] {
		e, f := p.expr(part)
		if f != fine {
			return e, f
		}
		v = append(v, value(e))
	}
	name := x.parts[0].Text
	answer, params, _ := types.Sign(p.stands[x.parts[0]].Type)
	l, ok := arguments(params, v)
	switch {
	case !ok:
		return expression{}, bad(x, api.ErrType)
	case name == "setjmp" && !x.maySet:
		return expression{}, bad(x, api.ErrSetjmp)
	}
	k := x.core(api.KBuilt, string(answer), l...)
	k.Text = name
	return expression{typed: string(answer), core: k}, fine
}

// member types a member of a struct.
func (p *plain) member(x *nested, t string, address knot) (expression, api.Errno) {
	at, m, e := types.Member(p.u.Structs, t[1:len(t)-1], x.Text)
	if e != api.OK {
		return expression{}, api.ErrName
	}
	k := x.core(api.KField, "p"+string(m), address)
	k.Int = at
	return expression{typed: string(m), core: k, place: true}, api.OK
}

// cast types a cast.
func (p *plain) cast(x *nested, v expression) (expression, api.Errno) {
	to := string(x.Type)
	if e := types.Check(x.Type, p.u.Structs); e != api.OK {
		return v, e
	}
	a, isA := pointee(v.typed)
	b, isB := pointee(to)
	areObjects := isA && isB && a[0] != 'f' && b[0] != 'f'
	conv := expression{typed: to, core: x.core(api.KConv, to, v.core)}
	switch {
	case to == "v":
		return conv, api.OK
	case v.nothing && isB:
		return expression{typed: to, core: x.core(api.KNull, to), nothing: to == "pv"}, api.OK
	case v.typed == to:
		return expression{typed: to, core: v.core}, api.OK
	case isNumber(v.typed) && isNumber(to) || areObjects:
		return conv, api.OK
	}
	return v, api.ErrType
}

// sizeOf types the size of a type.
func (p *plain) sizeOf(x *nested, t string) (expression, api.Errno) {
	if e := types.Check(api.Type(t), p.u.Structs); e != api.OK {
		return expression{}, e
	}
	if p.size(t) == 0 {
		return expression{}, api.ErrType
	}
	k := x.core(api.KInt, "u")
	k.Int = p.size(t)
	return expression{typed: "u", core: k}, api.OK
}

// isExpr tells whether a node is an expression's.
func isExpr(x *nested) bool { return x.Kind <= api.NSizeT }

// prepare goes over statements from the whole on: where break, continue and setjmp may stand, and whose the labels are.
func (p *plain) prepare(x *nested, mayBreak, mayCont bool, of *nested) {
	x.mayBreak, x.mayCont = mayBreak, mayCont
	condition := -1
	switch x.Kind {
	case api.NExpr:
		p.allow(x.parts[0])
	case api.NIf, api.NWhile, api.NSwitch:
		condition = 0
	case api.NDo, api.NFor:
		condition = 1
	case api.NCase, api.NDefault:
		x.of = of
		p.switches = append(p.switches, x)
	}
	if condition >= 0 {
		p.allowCondition(x.parts[condition])
	}
	if x.Kind == api.NFor {
		p.allow(x.parts[2])
	}
	isLoop := x.Kind == api.NWhile || x.Kind == api.NDo || x.Kind == api.NFor
	for _, part := range x.parts {
		if isExpr(part) {
			continue
		}
		var inner *nested
		switch {
		case x.Kind == api.NSwitch:
			inner = x
			if part.Kind == api.NBlock {
				part.of = x
			}
		case x.Kind == api.NBlock:
			inner = x.of
		case x.Kind == api.NCase || x.Kind == api.NDefault:
			inner = of
			if part.Kind == api.NBlock {
				inner = nil
			}
		}
		if part.Kind == api.NBlock {
			inner = nil
		}
		p.prepare(part, mayBreak || isLoop || x.Kind == api.NSwitch, mayCont || isLoop, inner)
	}
}

// isSet tells whether an expression calls setjmp.
func (p *plain) isSet(x *nested) bool {
	return x.Kind == api.NCall && x.parts[0].Text == "setjmp" && p.stands[x.parts[0]].Kind == api.NameBuilt
}

// allow has setjmp stand as what is a whole statement.
func (p *plain) allow(x *nested) {
	if x.Kind == api.NCast && x.Type == "v" {
		x = x.parts[0]
	}
	x.maySet = p.isSet(x)
}

// allowCondition has setjmp stand as what is a whole condition.
func (p *plain) allowCondition(x *nested) {
	switch {
	case x.Kind == api.NUnary && x.Text == "!":
		x = x.parts[0]
	case x.Kind == api.NBinary && slices.Contains([]string{"<", ">", "<=", ">=", "==", "!="}, x.Text):
		a, b := x.parts[0], x.parts[1]
		a.maySet, b.maySet = p.isSet(a) && fold.Is(b.list, p.u.Structs), p.isSet(b) && fold.Is(a.list, p.u.Structs)
		return
	}
	x.maySet = p.isSet(x)
}

// scalarOr is the core tree of a condition.
func (p *plain) scalarOr(x *nested, e expression) (knot, trouble) {
	v := value(e)
	if !isScalarType(v.typed) {
		return v.core, bad(x, api.ErrType)
	}
	return v.core, fine
}

// stmt types a statement, its parts first: the core trees that it comes to.
func (p *plain) stmt(x *nested) ([]knot, trouble) {
	var exprs []expression
	var stmts [][]knot
	for i, part := range x.parts {
		switch {
		case part.Kind == api.NNone && i == 1:
			k := part.core(api.KInt, "i")
			k.Int = 1
			exprs = append(exprs, expression{typed: "i", core: k})
		case isExpr(part):
			e, f := p.expr(part)
			if f != fine {
				return nil, f
			}
			if x.Kind == api.NCase && !fold.Is(part.list, p.u.Structs) {
				return nil, bad(part, api.ErrConst)
			}
			if x.Kind == api.NFor && i == 2 {
				v := value(e)
				stmts = append(stmts, []knot{above(api.SExpr, "", v.core)})
				continue
			}
			exprs = append(exprs, e)
		default:
			l, f := p.stmt(part)
			if f != fine {
				return nil, f
			}
			stmts = append(stmts, l)
		}
	}
	return p.wholeStmt(x, exprs, stmts)
}

// wholeStmt types a statement whose parts are typed.
func (p *plain) wholeStmt(x *nested, exprs []expression, stmts [][]knot) ([]knot, trouble) {
	none := x.core(api.SNone, "")
	one := func(k knot) ([]knot, trouble) { return []knot{k}, fine }
	switch x.Kind {
	case api.NNone:
		return one(none)
	case api.NExpr:
		return one(x.core(api.SExpr, "", value(exprs[0]).core))
	case api.NBlock:
		return one(x.core(api.SBlock, "", slices.Concat(stmts...)...))
	case api.NDecl:
		return p.decl(x, exprs)
	case api.NIf, api.NWhile, api.NDo, api.NFor:
		c, f := p.scalarOr(x, exprs[0])
		if f != fine {
			return nil, f
		}
		switch x.Kind {
		case api.NIf:
			return one(x.core(api.SIf, "", append([]knot{c}, slices.Concat(stmts...)...)...))
		case api.NFor:
			first := stmts[0][0]
			if len(stmts[0]) > 1 {
				first = above(api.SBlock, "", stmts[0]...)
			}
			return one(x.core(api.SLoop, "", first, c, stmts[1][0], stmts[2][0]))
		}
		k := x.core(api.SLoop, "", none, c, none, stmts[0][0])
		if x.Kind == api.NDo {
			k.Int = 1
		}
		return one(k)
	case api.NSwitch:
		v := value(exprs[0])
		switch {
		case !isNumber(v.typed):
			return nil, bad(x, api.ErrType)
		case x.parts[1].Kind != api.NBlock:
			return nil, bad(x, api.ErrJump)
		}
		return one(x.core(api.SSwitch, "", number(v, "i"), stmts[0][0]))
	case api.NCase, api.NDefault:
		return p.label(x, stmts[0][0])
	case api.NBreak, api.NCont:
		if x.Kind == api.NBreak && !x.mayBreak || x.Kind == api.NCont && !x.mayCont {
			return nil, bad(x, api.ErrJump)
		}
		return one(x.core(map[int]int{api.NBreak: api.SBreak, api.NCont: api.SCont}[x.Kind], ""))
	}
	if len(exprs) == 0 && p.answer == "v" {
		return one(x.core(api.SReturn, ""))
	}
	if len(exprs) == 0 || p.answer == "v" {
		return nil, bad(x, api.ErrType)
	}
	v, ok := convert(value(exprs[0]), p.answer)
	if !ok {
		return nil, bad(x, api.ErrType)
	}
	return one(x.core(api.SReturn, "", v.core))
}

// decl types a declaration.
func (p *plain) decl(x *nested, exprs []expression) ([]knot, trouble) {
	if e := types.Check(x.Type, p.u.Structs); e != api.OK {
		return nil, bad(x, e)
	}
	slot := p.stands[x].Index
	k := x.core(api.SDecl, "")
	k.Int = slot
	if len(exprs) == 0 {
		return []knot{k}, fine
	}
	v := value(exprs[0])
	switch t := string(x.Type); {
	case t[0] == 'S' && v.typed == t:
		to := x.core(api.KLocal, "p"+t)
		to.Int = slot
		return []knot{k, x.core(api.SExpr, "", x.core(api.KCopy, "p"+t, to, v.core))}, fine
	case isScalarType(t):
		if v, ok := convert(v, t); ok {
			k.parts = []knot{v.core}
			return []knot{k}, fine
		}
	}
	return nil, bad(x, api.ErrType)
}

// labelled is the number of a label, as a text.
func (p *plain) labelled(x *nested) string {
	if x.Kind == api.NDefault {
		return "default"
	}
	n, _, _ := fold.Eval(x.parts[0].list, p.u.Structs)
	n, _ = fold.Convert(n, "i")
	return strconv.Itoa(n)
}

// label types a label: none that is the same may stand ahead of it in the text.
func (p *plain) label(x *nested, of knot) ([]knot, trouble) {
	if x.of == nil {
		return nil, bad(x, api.ErrJump)
	}
	for _, y := range p.switches {
		if y.of == x.of && y.text < x.text && p.labelled(x) == p.labelled(y) {
			return nil, bad(x, api.ErrCase)
		}
	}
	k := x.core(api.SOther, "", of)
	if x.Kind == api.NCase {
		k.Kind = api.SCase
		k.Int, _ = strconv.Atoi(p.labelled(x))
	}
	return []knot{k}, fine
}

// pieces is the types of the scalars of an object.
func (p *plain) pieces(t string) []string {
	switch {
	case isScalarType(t):
		return []string{t}
	case t[0] == 'S':
		var l []string
		for _, s := range p.u.Structs {
			if "S"+s.Name+";" == t {
				for _, m := range s.Members {
					l = append(l, p.pieces(string(m.Type))...)
				}
			}
		}
		return l
	case t[0] == 'a':
		n, elem, _ := strings.Cut(t[1:], ":")
		count, _ := strconv.Atoi(n)
		return slices.Repeat(p.pieces(elem), count)
	}
	return nil
}

// global is the nodes of a global.
func (p *plain) global(g api.Global) ([]api.Node, trouble) {
	t := string(g.Var.Type)
	if n, elem, _ := strings.Cut(t[1:], ":"); t[0] == 'a' && elem == "c" && len(g.Init) == 1 && len(g.Init[0]) == 1 && g.Init[0][0].Kind == api.NString {
		count, _ := strconv.Atoi(n)
		text := g.Init[0][0].Text
		if len(text) > count {
			return nil, trouble{At: g.At, Code: api.ErrLong}
		}
		var l []api.Node
		for i := range min(len(text)+1, count) {
			b := 0
			if i < len(text) {
				b, _ = fold.Convert(int(text[i]), "c")
			}
			l = append(l, api.Node{Kind: api.KInt, At: g.Init[0][0].At, Int: b, Type: "c"})
		}
		return l, fine
	}
	scalars := p.pieces(t)
	if len(g.Init) > len(scalars) {
		return nil, trouble{At: g.At, Code: api.ErrType}
	}
	var l []api.Node
	for i, init := range g.Init {
		n, f := p.constant(init, scalars[i])
		if f != fine {
			return nil, f
		}
		l = append(l, n)
	}
	return l, fine
}

// constant is the node of a scalar's value.
func (p *plain) constant(init api.Tree, t string) (api.Node, trouble) {
	x := nest(init)
	if f := p.bind(x, nil); f != fine {
		return api.Node{}, f
	}
	e, f := p.expr(x)
	if f != fine {
		return api.Node{}, f
	}
	v, ok := convert(value(e), t)
	if !ok {
		return api.Node{}, bad(x, api.ErrType)
	}
	if isNumber(t) {
		n, _, e := fold.Eval(init, p.u.Structs)
		if e != api.OK {
			return api.Node{}, bad(x, api.ErrConst)
		}
		n, _ = fold.Convert(n, api.Type(t))
		return api.Node{Kind: api.KInt, At: x.At, Int: n, Type: api.Type(t)}, fine
	}
	k := v.core
	if k.Kind == api.KNull {
		return k.Node, fine
	}
	if k.Kind == api.KConv {
		k = k.parts[0]
	}
	if k.Kind == api.KField && k.Int == 0 {
		k = k.parts[0]
	}
	if k.Kind != api.KGlobal && k.Kind != api.KString && k.Kind != api.KFunc {
		return api.Node{}, bad(x, api.ErrConst)
	}
	k.Type = api.Type(t)
	return k.Node, fine
}

// bind finds what the names of an expression stand for, a whole ahead of its parts: a slot, what the file has, what is built in.
func (p *plain) bind(x *nested, slots []api.Slot) trouble {
	if x.Kind == api.NName {
		b := api.Binding{}
		for i, v := range names.Built() {
			if v.Name == x.Text {
				b = api.Binding{Kind: api.NameBuilt, Index: i, Type: v.Type}
			}
		}
		for i, g := range p.u.Globals {
			if g.Var.Name == x.Text {
				b = api.Binding{Kind: api.NameGlobal, Index: i, Type: g.Var.Type}
			}
		}
		for i, f := range p.funcs {
			if f.Name == x.Text {
				b = api.Binding{Kind: api.NameFunc, Index: i, Type: f.Type}
			}
		}
		for i, s := range slots {
			if s.Name == x.Text {
				b = api.Binding{Kind: api.NameSlot, Index: i, Type: s.Type}
			}
		}
		if b.Kind == 0 {
			return bad(x, api.ErrName)
		}
		p.stands[x] = b
	}
	for _, part := range x.parts {
		if f := p.bind(part, slots); f != fine {
			return f
		}
	}
	return fine
}

// function is a function's core.
func (p *plain) function(f api.Func) (api.CoreFunc, trouble) {
	slots, l, fault := names.Resolve(p.u, f.Name)
	if fault != fine {
		return api.CoreFunc{}, fault
	}
	x := nest(f.Body)
	p.stands, p.switches = map[*nested]api.Binding{}, nil
	var put func(*nested)
	put = func(x *nested) {
		p.stands[x] = l[x.at]
		for _, part := range x.parts {
			put(part)
		}
	}
	put(x)
	answer, _, _ := types.Sign(f.Type)
	p.answer = string(answer)
	p.prepare(x, false, false, nil)
	k, fault := p.stmt(x)
	if fault != fine {
		return api.CoreFunc{}, fault
	}
	return api.CoreFunc{Name: f.Name, Type: f.Type, Slots: slots, Body: k[0].flat()}, fine
}

// plainUnit is what Unit tells.
func plainUnit(u api.Unit) (api.Core, trouble) {
	funcs, f := names.Funcs(u)
	if f != fine {
		return api.Core{}, f
	}
	p := &plain{u: u, funcs: funcs, stands: map[*nested]api.Binding{}}
	c := api.Core{Structs: u.Structs}
	for _, g := range u.Globals {
		l, f := p.global(g)
		if f != fine {
			return api.Core{}, f
		}
		c.Globals = append(c.Globals, api.CoreVar{Name: g.Var.Name, Type: g.Var.Type, Init: l})
	}
	isMain := false
	for _, x := range funcs {
		if len(x.Body) == 0 {
			continue
		}
		y, f := p.function(x)
		if f != fine {
			return api.Core{}, f
		}
		c.Funcs = append(c.Funcs, y)
		isMain = isMain || x.Name == "main" && x.Type == "f()i"
	}
	if !isMain {
		return api.Core{}, trouble{Code: api.ErrMain}
	}
	c.Strings = p.strings
	return c, fine
}

// 13.1: units by chance, held against the plainest reckoning; what is told is right, and so are single expressions (13.2).
func TestAgainstThePlainestReckoning(t *testing.T) {
	count := map[api.Errno]int{}
	for seed := range 1600 {
		u, s := grown(t, seed)
		if s == "" {
			continue
		}
		want, fault := plainUnit(u)
		c, f := check.Unit(u)
		same(t, s, f, fault)
		same(t, s, all(c), all(want))
		count[f.Code]++
		if f == fine {
			same(t, s, check.Check(c), fine)
			text, f := check.Print(c)
			same(t, s, all(text, f), all(printed(c), fine))
		}
		if seed%4 == 0 {
			eachExpression(t, u, s)
		}
	}
	// Both right units and each fault must come often enough to tell something.
	for code, least := range map[api.Errno]int{api.OK: 600, api.ErrType: 400, api.ErrLvalue: 20, api.ErrConst: 30, api.ErrName: 10, api.ErrJump: 15, api.ErrCase: 10, api.ErrSetjmp: 15, api.ErrTwice: 5} {
		if count[code] < least {
			t.Errorf("%d came %d times of %v", code, count[code], count)
		}
	}
}

// eachExpression holds what Expr tells of the expressions of a unit's functions against the plainest reckoning.
func eachExpression(t *testing.T, u api.Unit, s string) {
	t.Helper()
	for _, f := range u.Funcs {
		for at, n := range f.Body {
			if n.Kind > api.NSizeT || at%19 > 0 {
				continue
			}
			x, _ := tree.Sub(f.Body, at)
			funcs, fault := names.Funcs(u)
			p := &plain{u: u, funcs: funcs, stands: map[*nested]api.Binding{}}
			var e expression
			if root := nest(x); fault == fine {
				fault = p.bind(root, slots())
				if fault == fine {
					e, fault = p.expr(root)
				}
			}
			got, g := check.Expr(u, slots(), x)
			same(t, all(x, s), g, fault)
			if fault == fine {
				same(t, all(x, s), all(got), all(value(e).core.flat()))
			}
		}
	}
}
