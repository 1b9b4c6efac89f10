package fold_test

import (
	"math/big"
	"testing"

	"catapult/api"
	"catapult/fold"
	"catapult/types"
)

// The plainest reckoning of what the chapter says: trees nested, whole numbers without a bound, and three questions apart: is it of a constant's form, of which type, and what does it come to.

// nest is a tree whose parts stand within it.
type nest struct {
	api.Node
	parts []nest
}

// nested is the last tree of some nodes, and the nodes ahead of it.
func nested(t api.Tree) (nest, api.Tree) {
	last := len(t) - 1
	x := nest{Node: t[last], parts: make([]nest, t[last].N)}
	t = t[:last]
	for i := x.N - 1; i >= 0; i-- {
		x.parts[i], t = nested(t)
	}
	return x, t
}

// flat is a nest as a tree.
func (x nest) flat() api.Tree {
	var t api.Tree
	for _, p := range x.parts {
		t = append(t, p.flat()...)
	}
	return append(t, x.Node)
}

// plain reckons; what names stand for is known only where trees are looked at as a whole.
type plain struct {
	structs []api.Struct
	names   map[string]int64
	seen    []string // the names whose values were asked for, and set
}

// isForm tells whether a nest is of a constant expression's form.
func (p *plain) isForm(x nest) bool {
	for _, part := range x.parts {
		if !p.isForm(part) {
			return false
		}
	}
	switch x.Kind {
	case api.NInt, api.NBinary, api.NCond:
		return true
	case api.NUnary:
		return x.Text != "&" && x.Text != "*"
	case api.NCast:
		return x.Type == "c" || x.Type == "s" || x.Type == "i" || x.Type == "u"
	case api.NSizeT:
		_, _, e := types.Size(x.Type, p.structs)
		return e == api.OK
	}
	return false
}

// typeOf is the type of a nest: of its value, whatever that is.
func (p *plain) typeOf(x nest) api.Type {
	wide := func(parts ...nest) api.Type {
		for _, part := range parts {
			if p.typeOf(part) == "u" {
				return "u"
			}
		}
		return "i"
	}
	switch x.Kind {
	case api.NInt, api.NCast:
		return x.Type
	case api.NSizeT, api.NSizeof:
		return "u"
	case api.NUnary:
		if x.Text != "!" {
			return wide(x.parts[0])
		}
	case api.NCond:
		return wide(x.parts[1], x.parts[2])
	case api.NComma:
		return p.typeOf(x.parts[1])
	case api.NBinary:
		switch x.Text {
		case "<<", ">>":
			return wide(x.parts[0])
		case "*", "/", "%", "+", "-", "&", "^", "|":
			return wide(x.parts...)
		}
	}
	return "i"
}

// wrap is a whole number as one of a type.
func wrap(n *big.Int, t api.Type) *big.Int {
	bits := map[api.Type]uint{"c": 8, "s": 16, "i": 32, "u": 32}[t]
	all := new(big.Int).Lsh(big.NewInt(1), bits)
	n = new(big.Int).Mod(n, all)
	if t != "u" && n.Bit(int(bits)-1) == 1 {
		n.Sub(n, all)
	}
	return n
}

// truth is 1 or 0.
func truth(ok bool) *big.Int {
	if ok {
		return big.NewInt(1)
	}
	return big.NewInt(0)
}

// number is what a nest comes to; nil, if a division by nought is come to.
func (p *plain) number(x nest) *big.Int {
	switch x.Kind {
	case api.NInt:
		return big.NewInt(int64(x.Int))
	case api.NSizeT:
		bytes, _, _ := types.Size(x.Type, p.structs)
		return big.NewInt(int64(bytes))
	case api.NSizeof:
		return big.NewInt(4)
	case api.NName:
		p.seen = append(p.seen, x.Text)
		return big.NewInt(p.names[x.Text])
	case api.NAssign:
		return p.assign(x)
	case api.NCond:
		c := p.number(x.parts[0])
		switch {
		case c == nil:
			return nil
		case c.Sign() != 0:
			return p.as(x.parts[1], p.typeOf(x))
		}
		return p.as(x.parts[2], p.typeOf(x))
	case api.NCast:
		return p.as(x.parts[0], x.Type)
	case api.NUnary:
		return p.unary(x)
	case api.NComma:
		if p.number(x.parts[0]) == nil {
			return nil
		}
		return p.number(x.parts[1])
	}
	return p.binary(x)
}

// as is what a nest comes to, as a number of a type.
func (p *plain) as(x nest, t api.Type) *big.Int {
	n := p.number(x)
	if n == nil {
		return nil
	}
	return wrap(n, t)
}

// assign is what setting a name comes to.
func (p *plain) assign(x nest) *big.Int {
	n := p.as(x.parts[1], "i")
	if n != nil {
		name := x.parts[0].Text
		p.names[name] = n.Int64()
		p.seen = append(p.seen, name+"="+n.String())
	}
	return n
}

// unary is what a unary operation comes to.
func (p *plain) unary(x nest) *big.Int {
	n := p.number(x.parts[0])
	switch {
	case n == nil:
		return nil
	case x.Text == "!":
		return truth(n.Sign() == 0)
	case x.Text == "-":
		return wrap(new(big.Int).Neg(n), p.typeOf(x))
	}
	return wrap(new(big.Int).Not(n), p.typeOf(x))
}

// binary is what a binary operation comes to.
func (p *plain) binary(x nest) *big.Int {
	meet := api.Type("i")
	if p.typeOf(x.parts[0]) == "u" || p.typeOf(x.parts[1]) == "u" {
		meet = "u"
	}
	shifts := x.Text == "<<" || x.Text == ">>"
	if shifts {
		meet = p.typeOf(x)
	}
	a := p.as(x.parts[0], meet)
	if a == nil {
		return nil
	}
	if x.Text == "&&" && a.Sign() == 0 || x.Text == "||" && a.Sign() != 0 {
		return truth(a.Sign() != 0)
	}
	b := p.as(x.parts[1], "u")
	if b == nil {
		return nil
	}
	if shifts {
		return shifted(x.Text, a, uint(b.Int64()%32), meet)
	}
	return operation(x.Text, a, wrap(b, meet), meet)
}

// shifted is a number of a type times or by a power of two, towards what is less.
func shifted(mark string, a *big.Int, count uint, t api.Type) *big.Int {
	if mark == "<<" {
		return wrap(new(big.Int).Lsh(a, count), t)
	}
	return wrap(new(big.Int).Rsh(a, count), t)
}

// operation is what an operation on two numbers of one type comes to.
func operation(mark string, a, b *big.Int, t api.Type) *big.Int {
	n, order := new(big.Int), a.Cmp(b)
	switch mark {
	case "/", "%":
		if b.Sign() == 0 {
			return nil
		}
		if mark == "/" {
			return wrap(n.Quo(a, b), t)
		}
		return wrap(n.Rem(a, b), t)
	case "*":
		return wrap(n.Mul(a, b), t)
	case "+":
		return wrap(n.Add(a, b), t)
	case "-":
		return wrap(n.Sub(a, b), t)
	case "&":
		return wrap(n.And(a, b), t)
	case "|":
		return wrap(n.Or(a, b), t)
	case "^":
		return wrap(n.Xor(a, b), t)
	case "&&":
		return truth(a.Sign() != 0 && b.Sign() != 0)
	case "||":
		return truth(a.Sign() != 0 || b.Sign() != 0)
	case "==":
		return truth(order == 0)
	case "!=":
		return truth(order != 0)
	case "<":
		return truth(order < 0)
	case "<=":
		return truth(order <= 0)
	case ">":
		return truth(order > 0)
	}
	return truth(order >= 0)
}

// constant is what a nest comes to, if it is a constant expression; else nil.
func (p *plain) constant(x nest) *big.Int {
	if !p.isForm(x) {
		return nil
	}
	return p.number(x)
}

// fold is what a nest is folded to.
func (p *plain) fold(x nest) nest {
	if x.Kind == api.NInt || x.Kind == api.NSizeof {
		return x
	}
	least := big.NewInt(-1 << 31)
	if n := p.constant(x); n != nil && n.Cmp(least) != 0 && (p.typeOf(x) == "i" || p.typeOf(x) == "u") {
		size := nest{Node: api.Node{Kind: api.NInt, At: x.At, Int: int(new(big.Int).Abs(n).Int64()), Type: p.typeOf(x)}}
		if n.Sign() < 0 {
			return nest{Node: api.Node{Kind: api.NUnary, N: 1, At: x.At, Text: "-"}, parts: []nest{size}}
		}
		return size
	}
	y := nest{Node: x.Node}
	for _, part := range x.parts {
		y.parts = append(y.parts, p.fold(part))
	}
	return y
}

// plainEval is Eval once more, of a tree that is right.
func plainEval(x api.Tree, l []api.Struct) (int, api.Type, api.Errno) {
	p := &plain{structs: l}
	whole, _ := nested(x)
	n := p.constant(whole)
	if n == nil {
		return 0, "", api.ErrFold
	}
	return int(n.Int64()), p.typeOf(whole), api.OK
}

// plainFold is Fold once more, of a tree that is right.
func plainFold(x api.Tree, l []api.Struct) api.Tree {
	p := &plain{structs: l}
	whole, _ := nested(x)
	return p.fold(whole).flat()
}

// 12.2: all operations on numbers at the edges, of all types, against the plain ones.
func TestOperationsAgainstThePlainOnes(t *testing.T) {
	edges := []int{0, 1, 2, 3, 7, 31, 32, 33, 100, 127, 128, 255, 256, 32767, 32768, 46341, 65535, 65536, 1<<31 - 1, 1 << 31, 1<<31 + 1, 1<<32 - 1, 1 << 32, 1<<63 - 1}
	for _, n := range edges {
		edges = append(edges, -n)
	}
	leaf := func(n int, typed api.Type) nest {
		return nest{Node: api.Node{Kind: api.NCast, Type: typed}, parts: []nest{{Node: api.Node{Kind: api.NInt, Int: n}}}}
	}
	hold := func(what string, x nest, n int, typed api.Type, e api.Errno) {
		p := &plain{}
		want := p.number(x)
		if want == nil {
			same(t, what, all(n, typed == "", e), all(0, true, api.ErrFold))
			return
		}
		same(t, what, all(n, typed, e), all(want, p.typeOf(x), api.OK))
	}
	for _, a := range edges {
		for _, x := range integers() {
			n, e := fold.Convert(a, x)
			hold(all(a, x), leaf(a, x), n, x, e)
			for _, mark := range unaryMarks() {
				n, typed, e := fold.Unary(mark, a, x)
				hold(all(mark, a, x), nest{Node: api.Node{Kind: api.NUnary, Text: mark}, parts: []nest{leaf(a, x)}}, n, typed, e)
			}
			for _, b := range edges {
				for _, y := range integers() {
					for _, mark := range binaryMarks() {
						n, typed, e := fold.Binary(mark, a, x, b, y)
						hold(all(mark, a, x, b, y), nest{Node: api.Node{Kind: api.NBinary, Text: mark}, parts: []nest{leaf(a, x), leaf(b, y)}}, n, typed, e)
					}
				}
			}
		}
	}
}
