package types

import (
	"strconv"
	"strings"
)

// writer writes declarations.
type writer struct{ strings.Builder }

// declare writes the declaration of a name, or of none, as a type.
func (w *writer) declare(n node, name string) {
	around, base := n.around()
	w.base(base)
	if len(around) > 0 || name != "" {
		w.WriteString(" ")
	}
	for i := len(around) - 1; i >= 0; i-- {
		w.ahead(around[i])
	}
	w.WriteString(name)
	for _, x := range around {
		w.behind(x)
	}
}

// around is the pointers, arrays and functions that stand one within the other, from the outermost on, and what the innermost one is of.
func (n node) around() ([]node, node) {
	var l []node
	for len(n.parts) > 0 {
		l = append(l, n)
		n = n.inner()
	}
	return l, n
}

// base writes a type that is made of no other one.
func (w *writer) base(n node) {
	switch n.letter {
	case void:
		w.WriteString("void")
	case char:
		w.WriteString("char")
	case short:
		w.WriteString("short")
	case integer:
		w.WriteString("int")
	case unsigned:
		w.WriteString("unsigned")
	case jmpBuf:
		w.WriteString("jmp_buf")
	case structure:
		w.WriteString("struct " + n.tag)
	}
}

// ahead writes what of a type stands ahead of the name.
func (w *writer) ahead(n node) {
	if n.letter != pointer {
		return
	}
	if n.isBracketed() {
		w.WriteString("(")
	}
	w.WriteString("*")
}

// behind writes what of a type stands behind the name.
func (w *writer) behind(n node) {
	switch n.letter {
	case pointer:
		if n.isBracketed() {
			w.WriteString(")")
		}
	case array:
		w.WriteString("[" + strconv.Itoa(n.count) + "]")
	case function:
		w.list(n.params())
	}
}

// isBracketed tells whether a pointer stands in brackets: what stands behind would bind tighter.
func (n node) isBracketed() bool {
	to := n.inner().letter
	return to == array || to == function
}

// list writes a function's parameters.
func (w *writer) list(params []node) {
	w.WriteString("(")
	if len(params) == 0 {
		w.WriteString("void")
	}
	for i, p := range params {
		if i > 0 {
			w.WriteString(", ")
		}
		w.declare(p, "")
	}
	w.WriteString(")")
}
