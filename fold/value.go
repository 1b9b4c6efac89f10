package fold

import (
	"catapult/api"
	"catapult/types"
	"catapult/word"
)

// least is the one number of int whose size is none of int.
const least = -1 << 31

// value is what an expression comes to: a number of the type that it embeds.
// The type is none, if the expression has not the form of a constant one.
type value struct {
	integer
	n        int
	byNought bool // a division by nought has left it without a number
}

// part is a part of a tree: what it comes to, and where it begins in the tree and in what that is folded to.
type part struct {
	value
	from, folded int
}

// answer is a value as the faces tell it.
func (v value) answer() (int, api.Type, api.Errno) {
	if v.integer == none || v.byNought {
		return 0, "", api.ErrFold
	}
	return v.n, api.Type(v.integer), api.OK
}

// word is the word of a value's number.
func (v value) word() uint32 { return word.Of(v.n) }

// as is a value converted to a type.
func (v value) as(t integer) value { return t.result(v.word(), v.byNought) }

// tree is a value as a tree all of whose nodes stand at a place; empty, if no tree is to stand for it.
func (v value) tree(at int) api.Tree {
	hasTree := (v.integer == signed || v.integer == unsigned) && v.n != least
	if v.byNought || !hasTree {
		return nil
	}
	t := api.Tree{{Kind: api.NInt, At: at, Int: max(v.n, -v.n), Type: api.Type(v.integer)}}
	if v.n < 0 {
		t = append(t, api.Node{Kind: api.NUnary, N: 1, At: at, Text: "-"})
	}
	return t
}

// join is what a node comes to whose parts are known.
func join(n api.Node, parts ...part) value {
	for _, p := range parts {
		if p.integer == none {
			return value{}
		}
	}
	switch n.Kind {
	case api.NInt:
		return integer(n.Type).of(n.Int)
	case api.NUnary:
		return unary(n.Text, parts[0].value)
	case api.NBinary:
		return binary(n.Text, parts[0].value, parts[1].value)
	case api.NCond:
		return choose(parts[0].value, parts[1].value, parts[2].value)
	case api.NCast:
		if types.IsInt(n.Type) {
			return parts[0].as(integer(n.Type))
		}
	}
	return value{}
}
