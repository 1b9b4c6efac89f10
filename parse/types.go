package parse

import (
	"strconv"
	"strings"

	"catapult/api"
	"catapult/types"
)

// Codes of types that are asked for here, and with which types are put together.
const (
	void     = api.Type("v")
	char     = api.Type("c")
	short    = api.Type("s")
	integer  = api.Type("i")
	unsigned = api.Type("u")
	jmpBuf   = api.Type("j")

	pointerTo  = "p"
	arrayOf    = "a"
	countEnd   = ":"
	functionOf = "f"
)

// Keywords that stand in more than one place.
const (
	structKey   = "struct"
	voidKey     = "void"
	volatileKey = "volatile"
)

// shape is what a declarator makes of a type: the name that it declares, if it has one, and what stands ahead of that type's code in its own.
type shape struct {
	name   string
	at     int // the name's place
	code   string
	params []api.Var // of a function that has the name: those that stand next to it
}

// of is the type that it makes of one.
func (x shape) of(base api.Type) api.Type { return api.Type(x.code) + base }

// typeReader reads types and declarators.
type typeReader struct{ reader }

// typeName reads a type.
func (r *typeReader) typeName() api.Type {
	base := r.base()
	return r.abstract().of(base)
}

// seesBase tells whether what a type begins with comes next.
func (r *typeReader) seesBase() bool { return beginsBase(r.look(0)) }

// beginsBase tells whether a token begins a type.
func beginsBase(x api.Token) bool {
	switch wordOf(x) {
	case voidKey, "char", "short", "int", "unsigned", "jmp_buf", structKey:
		return true
	}
	return false
}

// base reads what a type begins with: a type that is made of no other.
func (r *typeReader) base() api.Type {
	switch {
	case r.take(voidKey):
		return void
	case r.take("char"):
		return char
	case r.take("short"):
		r.take("int")
		return short
	case r.take("int"):
		return integer
	case r.take("unsigned"):
		r.take("int")
		return unsigned
	case r.take("jmp_buf"):
		return jmpBuf
	}
	r.want(structKey)
	return api.Type("S" + r.name().Text + ";")
}

// declarator reads a name and what stands around it.
func (r *typeReader) declarator() shape { return r.around(r.named) }

// abstract reads what may stand around a name, without one.
func (r *typeReader) abstract() shape { return r.around(r.nameless) }

// either reads a declarator, with a name or without one.
func (r *typeReader) either() shape { return r.around(r.perhapsNamed) }

// around reads the stars ahead of a core, it, and what stands behind it.
func (r *typeReader) around(core func() shape) shape {
	stars := 0
	for r.take(star) {
		stars++
	}
	x := core()
	for r.sees("[", open) {
		if r.sees("[") {
			x.code += r.array()
			continue
		}
		params := r.parameters()
		// What stands next to the name comes first, in whatever brackets the name is.
		if x.code == "" {
			x.params = params
		}
		x.code += function(params)
	}
	x.code += strings.Repeat(pointerTo, stars)
	return x
}

// named reads a name, or a declarator in brackets.
func (r *typeReader) named() shape {
	if r.sees(open) {
		return r.bracketed(r.declarator)
	}
	x := r.name()
	return shape{name: x.Text, at: x.At}
}

// nameless reads a declarator without a name in brackets, if there is one.
func (r *typeReader) nameless() shape {
	if r.sees(open) && !r.opensParameters() {
		return r.bracketed(r.abstract)
	}
	return shape{}
}

// perhapsNamed reads a name, or a declarator in brackets, if there is one.
func (r *typeReader) perhapsNamed() shape {
	switch {
	case r.seesName():
		return r.named()
	case r.sees(open) && !r.opensParameters():
		return r.bracketed(r.either)
	}
	return shape{}
}

// bracketed reads a declarator in brackets.
func (r *typeReader) bracketed(read func() shape) shape {
	r.want(open)
	x := read()
	r.want(shut)
	return x
}

// opensParameters tells whether the bracket that comes next holds parameters.
func (r *typeReader) opensParameters() bool {
	x := r.look(1)
	word := wordOf(x)
	return word == shut || word == volatileKey || beginsBase(x)
}

// array reads how many members an array has: its code ahead of theirs.
func (r *typeReader) array() string {
	r.want("[")
	x := r.look(0)
	if x.Kind != api.TokInt || x.Text != "" || x.Int < 0 {
		r.refuse()
	}
	r.at++
	r.want("]")
	return arrayOf + strconv.Itoa(x.Int) + countEnd
}

// parameters reads a function's parameters.
func (r *typeReader) parameters() []api.Var {
	var l []api.Var
	r.want(open)
	switch {
	case r.sees(shut):
	case r.sees(voidKey) && wordOf(r.look(1)) == shut:
		r.want(voidKey)
	default:
		r.list(func() { l = append(l, r.parameter()) })
	}
	r.want(shut)
	return l
}

// parameter reads a parameter.
func (r *typeReader) parameter() api.Var {
	isVolatile := r.take(volatileKey)
	base := r.base()
	x := r.either()
	t := x.of(base)
	if t == void {
		r.refuse()
	}
	return api.Var{Name: x.name, Type: decayed(t), Volatile: isVolatile}
}

// decayed is what a parameter's type decays to, as types.Decay tells it: that one would take apart all within it once more, at each level.
func decayed(t api.Type) api.Type {
	switch t[:1] {
	case arrayOf:
		_, member, _ := strings.Cut(string(t), countEnd)
		return pointerTo + api.Type(member)
	case functionOf, jmpBuf:
		return pointerTo + t
	}
	return t
}

// function is a function's code ahead of that of what it answers.
func function(params []api.Var) string {
	codes := make([]string, len(params))
	for i, v := range params {
		codes[i] = string(v.Type)
	}
	return functionOf + "(" + strings.Join(codes, ",") + ")"
}

// isFunction tells whether a type is that of a function.
func isFunction(t api.Type) bool {
	_, _, e := types.Sign(t)
	return e == api.OK
}

// variable is the type of a variable, of which the declarator is read: neither void nor a function's.
func (r *typeReader) variable(x shape, base api.Type) api.Type {
	t := x.of(base)
	if t == void || isFunction(t) {
		r.refuse()
	}
	return t
}
