package tree_test

import (
	"strings"

	"catapult/api"
	"catapult/lex"
)

// A reader of what is printed, by the language of chapter 10; types are read by their texts, written out here.

// known is types, and their declarations of the name @, one blank between two tokens.
var known = [][2]string{
	{"c", "char @"}, {"s", "short @"}, {"i", "int @"}, {"u", "unsigned @"}, {"j", "jmp_buf @"}, {"v", "void @"},
	{"pv", "void * @"}, {"pc", "char * @"}, {"ppc", "char * * @"}, {"pi", "int * @"}, {"pj", "jmp_buf * @"},
	{"a3:i", "int @ [ 3 ]"}, {"a2:a3:s", "short @ [ 2 ] [ 3 ]"}, {"pa2:c", "char ( * @ ) [ 2 ]"}, {"a65536:c", "char @ [ 65536 ]"}, {"a4:pc", "char * @ [ 4 ]"},
	{"St;", "struct t @"}, {"pSt;", "struct t * @"}, {"a2:St;", "struct t @ [ 2 ]"}, {"Sf;", "struct f @"}, {"pSf;", "struct f * @"},
	{"f()v", "void @ ( void )"}, {"pf()v", "void ( * @ ) ( void )"}, {"pf(i,pc)i", "int ( * @ ) ( int , char * )"}, {"f(i,u)pSt;", "struct t * @ ( int , unsigned )"},
	{"a3:pf()v", "void ( * @ [ 3 ] ) ( void )"}, {"pf(pSf;)v", "void ( * @ ) ( struct f * )"}, {"pf(i)pf(c)v", "void ( * ( * @ ) ( int ) ) ( char )"},
}

// levels is the marks between two parts, from the loosest.
var levels = []string{"||", "&&", "|", "^", "&", "== !=", "< > <= >=", "<< >>", "+ -", "* / %"}

// reader reads tokens, up to its place.
type reader struct {
	tokens []string
	kinds  []api.Token
}

// notRead is what a reader gives up with.
type notRead struct{}

// read reads a text from its beginning to its end; false, if it can not.
func read[T any](s string, what func(*reader) T) (x T, ok bool) {
	defer func() {
		if r := recover(); r != nil {
			if _, mine := r.(notRead); !mine {
				panic(r)
			}
			ok = false
		}
	}()
	l, f := lex.Tokens(s)
	if f.Code != api.OK {
		return x, false
	}
	r := &reader{kinds: l}
	for _, token := range l {
		text := token.Text
		if token.Kind == api.TokInt || token.Kind == api.TokStr {
			text = ""
		}
		r.tokens = append(r.tokens, text)
	}
	x = what(r)
	return x, len(r.tokens) == 0
}

// sees tells whether the next token is one of a row.
func (r *reader) sees(row string) bool {
	return len(r.tokens) > 0 && r.tokens[0] != "" && strings.Contains(" "+row+" ", " "+r.tokens[0]+" ")
}

// next takes the next token.
func (r *reader) next() api.Token {
	if len(r.tokens) == 0 {
		panic(notRead{})
	}
	x := r.kinds[0]
	r.tokens, r.kinds = r.tokens[1:], r.kinds[1:]
	return x
}

// takes takes the next token, if it is that one.
func (r *reader) takes(token string) bool {
	ok := r.sees(token)
	if ok {
		r.next()
	}
	return ok
}

// must takes tokens, which must be next.
func (r *reader) must(row string) {
	for _, token := range strings.Fields(row) {
		if !r.takes(token) {
			panic(notRead{})
		}
	}
}

// name takes a name.
func (r *reader) name() string {
	if x := r.next(); x.Kind == api.TokName {
		return x.Text
	}
	panic(notRead{})
}

const bases = "void char short int unsigned jmp_buf struct"

func (r *reader) expression() api.Tree {
	x := r.assignment()
	for r.takes(",") {
		x = node(api.NComma, "", x, r.assignment())
	}
	return x
}

func (r *reader) assignment() api.Tree {
	x, isUnary := r.cast()
	if isUnary && r.sees("= *= /= %= += -= <<= >>= &= ^= |=") {
		return node(api.NAssign, r.next().Text, x, r.assignment())
	}
	return r.conditional(x)
}

func (r *reader) conditional(x api.Tree) api.Tree {
	x = r.binary(x, 0)
	if !r.takes("?") {
		return x
	}
	y := r.expression()
	r.must(":")
	z, _ := r.cast()
	return node(api.NCond, "", x, y, r.conditional(z))
}

func (r *reader) binary(x api.Tree, level int) api.Tree {
	if level == len(levels) {
		return x
	}
	x = r.binary(x, level+1)
	for r.sees(levels[level]) {
		mark := r.next().Text
		y, _ := r.cast()
		x = node(api.NBinary, mark, x, r.binary(y, level+1))
	}
	return x
}

// beginsType tells whether a bracket is next, and what begins a type behind it.
func (r *reader) beginsType() bool {
	behind := &reader{tokens: r.tokens[min(1, len(r.tokens)):]}
	return r.sees("(") && behind.sees(bases)
}

func (r *reader) cast() (api.Tree, bool) {
	if !r.beginsType() {
		return r.unary(), true
	}
	code := r.typeName()
	x, _ := r.cast()
	return typed(api.NCast, code, x), false
}

func (r *reader) typeName() string {
	r.must("(")
	code, named := r.declaration(")")
	if named != "" {
		panic(notRead{})
	}
	r.must(")")
	return code
}

func (r *reader) unary() api.Tree {
	switch {
	case r.sees("++ --"):
		mark := r.next().Text
		return node(api.NPre, mark, r.unary())
	case r.sees("& * - ~ !"):
		mark := r.next().Text
		x, _ := r.cast()
		return node(api.NUnary, mark, x)
	case !r.takes("sizeof"):
		return r.postfix()
	case r.beginsType():
		return typed(api.NSizeT, r.typeName())
	}
	return node(api.NSizeof, "", r.unary())
}

func (r *reader) postfix() api.Tree {
	x := r.primary()
	for {
		switch {
		case r.takes("["):
			x = node(api.NIndex, "", x, r.expression())
			r.must("]")
		case r.takes("("):
			parts := []api.Tree{x}
			for !r.takes(")") {
				if len(parts) > 1 {
					r.must(",")
				}
				parts = append(parts, r.assignment())
			}
			x = node(api.NCall, "", parts...)
		case r.takes("."):
			x = node(api.NDot, r.name(), x)
		case r.takes("->"):
			x = node(api.NArrow, r.name(), x)
		case r.sees("++ --"):
			x = node(api.NPost, r.next().Text, x)
		default:
			return x
		}
	}
}

func (r *reader) primary() api.Tree {
	if r.takes("(") {
		x := r.expression()
		r.must(")")
		return x
	}
	switch x := r.next(); x.Kind {
	case api.TokInt:
		if x.Text == "u" {
			return number(x.Int, "u")
		}
		return number(x.Int, "i")
	case api.TokStr:
		return node(api.NString, x.Text)
	case api.TokName:
		return name(x.Text)
	}
	panic(notRead{})
}

// declaration reads a declaration up to one of the tokens of a row, outside of brackets: a type, and the name that it declares.
func (r *reader) declaration(end string) (string, string) {
	text, named, deep := "", "", 0
	for ahead := ""; deep > 0 || !r.sees(end); {
		x := r.next()
		switch x.Text {
		case "(", "[":
			deep++
		case ")", "]":
			deep--
		}
		token, e := lex.Lay([]api.Token{x})
		if e != api.OK {
			panic(notRead{})
		}
		if x.Kind == api.TokName && ahead != "struct" && named == "" {
			named, token = x.Text, "@"
		}
		ahead = x.Text
		text += " " + token
	}
	for _, k := range known {
		if text = text[min(1, len(text)):]; text == k[1] || named == "" && text == strings.Join(strings.Fields(strings.Replace(k[1], "@", "", 1)), " ") {
			return k[0], named
		}
		text = " " + text
	}
	panic(notRead{})
}

func (r *reader) statement() api.Tree {
	condition := func(key string) api.Tree {
		r.must(key + " (")
		x := r.expression()
		r.must(")")
		return x
	}
	switch {
	case r.takes(";"):
		return empty()
	case r.sees("{"):
		return r.block()
	case r.sees("if"):
		parts := []api.Tree{condition("if"), r.statement()}
		if r.takes("else") {
			parts = append(parts, r.statement())
		}
		return node(api.NIf, "", parts...)
	case r.sees("while"):
		return node(api.NWhile, "", condition("while"), r.statement())
	case r.sees("switch"):
		return node(api.NSwitch, "", condition("switch"), r.statement())
	case r.takes("do"):
		x := r.statement()
		y := condition("while")
		r.must(";")
		return node(api.NDo, "", x, y)
	case r.takes("for"):
		r.must("(")
		parts := []api.Tree{nothing(), nothing(), nothing()}
		if !r.takes(";") {
			parts[0] = r.item()
		}
		if !r.sees(";") {
			parts[1] = r.expression()
		}
		r.must(";")
		if !r.sees(")") {
			parts[2] = r.expression()
		}
		r.must(")")
		return node(api.NFor, "", append(parts, r.statement())...)
	case r.takes("case"):
		x, _ := r.cast()
		x = r.conditional(x)
		r.must(":")
		return node(api.NCase, "", x, r.statement())
	case r.takes("default"):
		r.must(":")
		return node(api.NDefault, "", r.statement())
	}
	var x api.Tree
	switch {
	case r.takes("break"):
		x = node(api.NBreak, "")
	case r.takes("continue"):
		x = node(api.NCont, "")
	case r.takes("return"):
		x = node(api.NReturn, "")
		if !r.sees(";") {
			x = node(api.NReturn, "", r.expression())
		}
	default:
		x = node(api.NExpr, "", r.expression())
	}
	r.must(";")
	return x
}

func (r *reader) block() api.Tree {
	r.must("{")
	var parts []api.Tree
	for !r.takes("}") {
		parts = append(parts, r.item())
	}
	return node(api.NBlock, "", parts...)
}

// item reads a statement or a declaration.
func (r *reader) item() api.Tree {
	if !r.sees("volatile " + bases) {
		return r.statement()
	}
	n := api.Node{Kind: api.NDecl}
	if r.takes("volatile") {
		n.Int = 1
	}
	code, named := r.declaration("; =")
	n.Type, n.Text = api.Type(code), named
	var parts []api.Tree
	if r.takes("=") {
		parts = append(parts, r.assignment())
	}
	r.must(";")
	return whole(n, parts...)
}

// unit reads a unit.
func (r *reader) unit() api.Unit {
	var u api.Unit
	for len(r.tokens) > 0 {
		switch {
		case r.sees("struct") && len(r.tokens) > 2 && r.tokens[2] == "{":
			u.Structs = append(u.Structs, r.structure())
		case r.isFunction():
			u.Funcs = append(u.Funcs, r.function())
		default:
			u.Globals = append(u.Globals, r.global())
		}
	}
	return u
}

func (r *reader) structure() api.Struct {
	r.must("struct")
	s := api.Struct{Name: r.name()}
	r.must("{")
	for !r.takes("}") {
		code, named := r.declaration(";")
		s.Members = append(s.Members, api.Member{Name: named, Type: api.Type(code)})
		r.must(";")
	}
	r.must(";")
	return s
}

func (r *reader) global() api.Global {
	g := api.Global{Var: api.Var{Volatile: r.takes("volatile")}}
	code, named := r.declaration("; =")
	g.Var.Type, g.Var.Name = api.Type(code), named
	if r.takes("=") {
		if !r.takes("{") {
			g.Init = append(g.Init, r.assignment())
		} else {
			g.Init = append(g.Init, r.assignment())
			for !r.takes("}") {
				r.must(",")
				g.Init = append(g.Init, r.assignment())
			}
		}
	}
	r.must(";")
	return g
}

// nameAt is where the first name stands that is none of a struct.
func (r *reader) nameAt() int {
	for i, x := range r.kinds {
		if x.Kind == api.TokName && (i == 0 || r.kinds[i-1].Text != "struct") {
			return i
		}
	}
	return len(r.kinds)
}

func (r *reader) isFunction() bool {
	at := r.nameAt()
	return !r.sees("volatile") && at+1 < len(r.tokens) && r.tokens[at+1] == "("
}

// function reads a function: its parameters are cut out of the declaration of its name as its answer's type.
func (r *reader) function() api.Func {
	at := r.nameAt()
	within := &reader{tokens: r.tokens[at+2:], kinds: r.kinds[at+2:]}
	var f api.Func
	var params []string
	for !within.takes(")") {
		if len(within.tokens) > 1 && within.sees("void") && within.tokens[1] == ")" {
			within.next()
			continue
		}
		if len(params) > 0 {
			within.must(",")
		}
		v := api.Var{Volatile: within.takes("volatile")}
		code, named := within.declaration(", )")
		v.Type, v.Name = api.Type(code), named
		f.Params = append(f.Params, v)
		params = append(params, code)
	}
	r.tokens = append(r.tokens[:at+1:at+1], within.tokens...)
	r.kinds = append(r.kinds[:at+1:at+1], within.kinds...)
	answer, named := r.declaration("; {")
	f.Name, f.Type = named, api.Type("f("+strings.Join(params, ",")+")"+answer)
	if !r.takes(";") {
		f.Body = r.block()
	}
	return f
}
