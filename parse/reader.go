package parse

import (
	"slices"

	"catapult/api"
	"catapult/lex"
)

// Marks that stand in more than one place.
const (
	comma = ","
	end   = ";"
	open  = "("
	shut  = ")"
	begin = "{"
	done  = "}"
	gives = "="
	star  = "*"
)

// reader goes over the tokens of a text, from its front on.
type reader struct {
	tokens []api.Token
	at     int // how many are read
	length int // of the text
}

// wrong is what reading is given up with: the place of the token that can not stand where it stands.
type wrong struct{ at int }

// whole reads a whole text by what reads its one thing, and tells what is wrong with it.
func (r *reader) whole(s string, read func()) (f api.Fault) {
	r.tokens, f = lex.Tokens(s)
	if f.Code != api.OK {
		return f
	}
	r.length = len(s)
	defer func() {
		switch x := recover().(type) {
		case nil:
		case wrong:
			f = api.Fault{At: x.at, Code: api.ErrSyntax}
		default:
			panic(x)
		}
	}()
	read()
	if !r.isOver() {
		r.refuse()
	}
	return api.Fault{}
}

// isOver tells whether all is read.
func (r *reader) isOver() bool { return r.at == len(r.tokens) }

// look is a token that is not read yet: the next one, or one so many behind it; one of no kind at the text's end, where there is none.
func (r *reader) look(behind int) api.Token {
	if at := r.at + behind; at < len(r.tokens) {
		return r.tokens[at]
	}
	return api.Token{At: r.length}
}

// here is the place of the next token.
func (r *reader) here() int { return r.look(0).At }

// refuse gives up: the next token can not stand there.
func (r *reader) refuse() { panic(wrong{r.here()}) }

// wordOf is what a token reads, if it is a keyword or a mark.
func wordOf(x api.Token) string {
	if x.Kind == api.TokKey || x.Kind == api.TokMark {
		return x.Text
	}
	return ""
}

// word is the keyword or mark that comes next, if one does.
func (r *reader) word() string { return wordOf(r.look(0)) }

// sees tells whether one of these keywords and marks comes next.
func (r *reader) sees(words ...string) bool { return slices.Contains(words, r.word()) }

// take reads one of these keywords and marks, if it comes next, and tells whether it did.
func (r *reader) take(words ...string) bool {
	ok := r.sees(words...)
	if ok {
		r.at++
	}
	return ok
}

// want reads a keyword or mark that must come next.
func (r *reader) want(word string) {
	if !r.take(word) {
		r.refuse()
	}
}

// seesName tells whether a name comes next.
func (r *reader) seesName() bool { return r.look(0).Kind == api.TokName }

// name reads a name, which must come next.
func (r *reader) name() api.Token {
	if !r.seesName() {
		r.refuse()
	}
	return r.next()
}

// next reads the next token; there is one.
func (r *reader) next() api.Token {
	r.at++
	return r.tokens[r.at-1]
}

// within reads what stands between two marks.
func (r *reader) within(from string, read func(), to string) {
	r.want(from)
	read()
	r.want(to)
}

// list reads things with commas between two, and tells how many there are.
func (r *reader) list(read func()) int {
	read()
	n := 1
	for r.take(comma) {
		read()
		n++
	}
	return n
}
