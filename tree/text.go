package tree

import (
	"strings"

	"catapult/api"
	"catapult/lex"
	"catapult/types"
)

// Words and marks that stand in more than one place.
const (
	structKey   = "struct"
	volatileKey = "volatile"
	comma       = ","
	end         = ";"
)

// text is what is written: tokens with one blank between two, in lines.
type text struct {
	strings.Builder
	begun bool // whether the line has a token
}

// isLong tells whether too much is written.
func (w *text) isLong() bool { return w.Len() > api.MaxText }

// words writes keywords, names and marks, which stand in a text as they are.
func (w *text) words(l ...string) {
	for _, s := range l {
		// What is too long is told to nobody, so it grows no more.
		if w.isLong() {
			return
		}
		if w.begun {
			w.WriteByte(' ')
		}
		w.WriteString(s)
		w.begun = true
	}
}

// tokens writes tokens, each laid by itself: lex lays only so many at a time.
func (w *text) tokens(l ...api.Token) {
	for _, x := range l {
		s, _ := lex.Lay([]api.Token{x})
		w.words(s)
	}
}

// line ends a line.
func (w *text) line() {
	w.WriteByte('\n')
	w.begun = false
}

// when writes a word, if it is to stand.
func (w *text) when(is bool, word string) {
	if is {
		w.words(word)
	}
}

// declared is the tokens of a name's declaration as a type. They are read piece by piece, as lex reads only so many at a time; no token has a blank in it.
func declared(t api.Type, name string) []api.Token {
	s, _ := types.Declare(t, name)
	var l []api.Token
	for piece := range strings.FieldsSeq(s) {
		tokens, _ := lex.Tokens(piece)
		l = append(l, tokens...)
	}
	return l
}

// declare writes the declaration of a variable.
func (w *text) declare(v api.Var) {
	w.when(v.Volatile, volatileKey)
	// A type's text may be long as well, and there may be many.
	if !w.isLong() {
		w.tokens(declared(v.Type, v.Name)...)
	}
}

// typeName writes a type between brackets.
func (w *text) typeName(t api.Type) {
	w.words("(")
	w.declare(api.Var{Type: t})
	w.words(")")
}

// structure writes a struct.
func (w *text) structure(s api.Struct) {
	w.words(structKey, s.Name, "{")
	for _, m := range s.Members {
		w.declare(api.Var{Name: m.Name, Type: m.Type})
		w.words(end)
	}
	w.words("}", end)
	w.line()
}

// head writes a function's declaration: that of its name as its answer's type, and its parameters behind the name.
func (w *text) head(f api.Func) {
	answer, _, _ := types.Sign(f.Type)
	l := declared(answer, f.Name)
	behind := nameAt(l, f.Name) + 1
	w.tokens(l[:behind]...)
	w.words("(")
	for i, v := range f.Params {
		w.when(i > 0, comma)
		w.declare(v)
	}
	w.when(len(f.Params) == 0, "void")
	w.words(")")
	w.tokens(l[behind:]...)
}

// nameAt is where the name stands that is declared: behind the first token, and not behind struct.
func nameAt(l []api.Token, name string) int {
	at := 1
	for l[at].Text != name || l[at-1].Text == structKey {
		at++
	}
	return at
}
