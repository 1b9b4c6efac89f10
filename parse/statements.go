package parse

import "catapult/api"

// stmtReader reads statements and the declarations among them.
type stmtReader struct{ exprReader }

// alone reads one statement, or a declaration of one variable.
func (r *stmtReader) alone() {
	if r.seesDeclaration() {
		r.single()
		return
	}
	r.statement()
}

// seesDeclaration tells whether a declaration comes next.
func (r *stmtReader) seesDeclaration() bool { return r.sees(volatileKey) || r.seesBase() }

// single reads a declaration of one variable.
func (r *stmtReader) single() {
	read := r.declared()
	read()
	r.want(end)
}

// several reads a declaration, and tells how many variables it has.
func (r *stmtReader) several() int {
	n := r.list(r.declared())
	r.want(end)
	return n
}

// declared reads what a declaration begins with, and answers what reads one of its variables.
func (r *stmtReader) declared() func() {
	isVolatile := 0
	if r.take(volatileKey) {
		isVolatile = 1
	}
	base := r.base()
	return func() {
		x := r.declarator()
		n := api.Node{Kind: api.NDecl, At: x.at, Int: isVolatile, Text: x.name, Type: r.variable(x, base)}
		if r.take(gives) {
			r.assignment()
			n.N = 1
		}
		r.put(n)
	}
}

// statement reads a statement.
func (r *stmtReader) statement() {
	n := api.Node{At: r.here()}
	switch r.word() {
	case begin:
		n.Kind, n.N = api.NBlock, r.block()
	case end:
		n.Kind = api.NBlock
		r.want(end)
	case "if":
		n.Kind, n.N = api.NIf, r.choice()
	case "while":
		n.Kind, n.N = api.NWhile, r.governed("while")
	case "do":
		n.Kind, n.N = api.NDo, r.repeated()
	case "for":
		n.Kind, n.N = api.NFor, r.loop()
	case "switch":
		n.Kind, n.N = api.NSwitch, r.governed("switch")
	case "case":
		n.Kind, n.N = api.NCase, r.labelled()
	case "default":
		n.Kind, n.N = api.NDefault, r.otherwise()
	case "break":
		n.Kind, n.N = api.NBreak, r.leaving("break")
	case "continue":
		n.Kind, n.N = api.NCont, r.leaving("continue")
	case "return":
		n.Kind, n.N = api.NReturn, r.answer()
	default:
		n.Kind, n.N = api.NExpr, r.evaluated()
	}
	r.put(n)
}

// block reads a block, and tells how many statements and variables it has.
func (r *stmtReader) block() int {
	n := 0
	r.want(begin)
	for !r.take(done) {
		if r.seesDeclaration() {
			n += r.several()
			continue
		}
		r.statement()
		n++
	}
	return n
}

// What follows reads statements of a kind, their first words and their ends, and tells how many parts they have.

// governed reads a condition in brackets, and the statement that it governs.
func (r *stmtReader) governed(key string) int {
	r.want(key)
	r.within(open, r.expression, shut)
	r.statement()
	return 2
}

// choice reads an if.
func (r *stmtReader) choice() int {
	n := r.governed("if")
	if r.take("else") {
		r.statement()
		n++
	}
	return n
}

// repeated reads a do.
func (r *stmtReader) repeated() int {
	r.within("do", r.statement, "while")
	r.within(open, r.expression, shut)
	r.want(end)
	return 2
}

// loop reads a for.
func (r *stmtReader) loop() int {
	r.want("for")
	r.want(open)
	r.first()
	r.perhaps(end)
	r.perhaps(shut)
	r.statement()
	return 4
}

// first reads the first part of a for, and its end.
func (r *stmtReader) first() {
	switch from := r.here(); {
	case r.seesDeclaration():
		r.single()
	case r.sees(end):
		r.perhaps(end)
	default:
		r.put(api.Node{Kind: api.NExpr, N: r.evaluated(), At: from})
	}
}

// perhaps reads an expression, if there is one, and the mark behind it. What is not there has no first token, so it has no place.
func (r *stmtReader) perhaps(to string) {
	if r.sees(to) {
		r.put(api.Node{Kind: api.NNone})
	} else {
		r.expression()
	}
	r.want(to)
}

// labelled reads a case.
func (r *stmtReader) labelled() int {
	r.within("case", r.conditional, ":")
	r.statement()
	return 2
}

// otherwise reads a default.
func (r *stmtReader) otherwise() int {
	r.want("default")
	r.want(":")
	r.statement()
	return 1
}

// leaving reads what leaves a loop or a switch.
func (r *stmtReader) leaving(key string) int {
	r.want(key)
	r.want(end)
	return 0
}

// answer reads a return.
func (r *stmtReader) answer() int {
	r.want("return")
	if r.take(end) {
		return 0
	}
	return r.evaluated()
}

// evaluated reads an expression as a statement.
func (r *stmtReader) evaluated() int {
	r.expression()
	r.want(end)
	return 1
}
