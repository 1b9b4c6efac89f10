package types_test

import (
	"fmt"
	"math/big"
	"regexp"
	"strconv"
	"strings"
	"testing"

	"catapult/api"
	"catapult/lex"
	"catapult/types"
)

// What the document's chapter says, reckoned apart from the program, in the plainest way: codes are made shorter by regular expressions, cut as texts, and sizes are floats, which do not run over.

// The keywords, as they stand in chapter 7.
const plainKeys = " void char short int unsigned struct volatile if else while do for switch case default break continue return sizeof jmp_buf "

var (
	plainName  = regexp.MustCompile(`^[a-zA-Z_][a-zA-Z_0-9]{0,30}$`)
	plainBase  = regexp.MustCompile(`^(?:[vcsiuj]|S([a-zA-Z_][a-zA-Z_0-9]*);)`)
	plainOf    = regexp.MustCompile(`^(?:p|a(0|[1-9][0-9]*):)`)
	plainPart  = regexp.MustCompile(`pT`)
	plainWhole = regexp.MustCompile(`\((?:T(?:,T)*)?\)T`)
)

// plainIsName tells whether a text is a name.
func plainIsName(s string) bool {
	return plainName.MatchString(s) && !strings.Contains(plainKeys, " "+s+" ")
}

// plainForm tells whether a code is of a type's form: each base becomes T, each pointer and array p, and what is a whole becomes T, as long as it does.
func plainForm(t string) bool {
	if len(t) > 65536 {
		return false
	}
	var signs strings.Builder
	for t != "" {
		n := 1
		if m := plainBase.FindStringSubmatch(t); m != nil {
			if m[0][0] == 'S' && !plainIsName(m[1]) {
				return false
			}
			signs.WriteString("T")
			n = len(m[0])
		} else if m := plainOf.FindStringSubmatch(t); m != nil {
			count, _ := new(big.Int).SetString("0"+m[1], 10)
			if count.Cmp(big.NewInt(1<<40)) > 0 {
				return false
			}
			signs.WriteString("p")
			n = len(m[0])
		} else if strings.HasPrefix(t, "f(") {
			signs.WriteString("(")
			n = 2
		} else if t[0] == ',' || t[0] == ')' {
			signs.WriteByte(t[0])
		} else {
			return false
		}
		t = t[n:]
	}
	for s := signs.String(); ; {
		next := plainWhole.ReplaceAllString(plainPart.ReplaceAllString(s, "T"), "T")
		if next == s {
			return s == "T"
		}
		s = next
	}
}

// plain is a type cut: its letter, its number, its name, what it is of, and its parameters.
type plain struct {
	letter byte
	count  int
	name   string
	of     string
	params []string
}

// cut is a code of a type's form, cut.
func cut(t string) plain {
	x := plain{letter: t[0]}
	switch t[0] {
	case 'p':
		x.of = t[1:]
	case 'a':
		i := strings.Index(t, ":")
		x.count, _ = strconv.Atoi(t[1:i])
		x.of = t[i+1:]
	case 'S':
		x.name = strings.Trim(t[1:], " ;")
	case 'f':
		from, open := 2, 1
		for i := 2; open > 0; i++ {
			switch t[i] {
			case '(':
				open++
			case ')':
				open--
			}
			if i > 2 && (open == 0 || open == 1 && t[i] == ',') {
				x.params = append(x.params, t[from:i])
				from = i + 1
			}
			x.of = t[i+1:]
		}
	}
	return x
}

// within is all parts of a cut type.
func (x plain) within() []string {
	if x.of == "" {
		return nil
	}
	return append(append([]string{}, x.params...), x.of)
}

// plainDepth is how deep a type is.
func plainDepth(t string) int {
	n := 0
	for _, p := range cut(t).within() {
		n = max(n, plainDepth(p))
	}
	return n + 1
}

// everywhere is a type and all that is anywhere in it.
func everywhere(t string) []string {
	l := []string{t}
	for _, p := range cut(t).within() {
		l = append(l, everywhere(p)...)
	}
	return l
}

// isOne tells whether a type begins with one of these letters.
func isOne(t, letters string) bool { return strings.Contains(letters, t[:1]) }

// plainMisses tells whether a part of a type is one that it may not have, or there are too many, or none.
func plainMisses(t string) bool {
	x := cut(t)
	switch x.letter {
	case 'a':
		return x.count < 1 || x.count > 65536 || isOne(x.of, "vf")
	case 'f':
		for _, p := range x.params {
			if !isOne(p, "csiup") {
				return true
			}
		}
		return len(x.params) > 8 || !isOne(x.of, "vcsiup")
	}
	return false
}

// row is a struct that is given: its bytes, its alignment, its scalars, and its members' places.
type row struct {
	bytes, align float64
	s            api.Struct
	at           []int
}

// plainLacks tells whether a struct is named in a type, not behind a pointer, and not given.
func plainLacks(t string, given map[string]row) bool {
	x := cut(t)
	if x.letter == 'S' {
		_, ok := given[x.name]
		return !ok
	}
	return x.letter == 'a' && plainLacks(x.of, given)
}

// plainSize is an object's bytes and alignment; its structs are given.
func plainSize(t string, given map[string]row) (float64, float64) {
	x := cut(t)
	switch x.letter {
	case 'c':
		return 1, 1
	case 's':
		return 2, 2
	case 'j':
		return 64, 4
	case 'a':
		b, a := plainSize(x.of, given)
		return float64(x.count) * b, a
	case 'S':
		return given[x.name].bytes, given[x.name].align
	}
	return 4, 4
}

// plainCheck is what is wrong with a type, where structs are given.
func plainCheck(t string, given map[string]row) api.Errno {
	if !plainForm(t) {
		return api.ErrForm
	}
	if plainDepth(t) > 48 {
		return api.ErrLong
	}
	for _, p := range everywhere(t) {
		if plainMisses(p) {
			return api.ErrShape
		}
	}
	if plainLacks(t, given) {
		return api.ErrNone
	}
	for _, p := range everywhere(t) {
		if b, _ := plainSize(p, given); !isOne(p, "vf") && !plainLacks(p, given) && b > 65536 {
			return api.ErrLong
		}
	}
	return api.OK
}

// plainStructs is the structs that are given, or the fault.
func plainStructs(l []api.Struct) (map[string]row, api.Fault) {
	given := map[string]row{}
	if len(l) > 64 {
		return nil, api.Fault{Code: api.ErrLong}
	}
	for i, s := range l {
		x, e := plainRow(s, given)
		if _, ok := given[s.Name]; ok && plainIsName(s.Name) {
			e = api.ErrTwice
		}
		if e != api.OK {
			return nil, api.Fault{At: i, Code: e}
		}
		given[s.Name] = x
	}
	return given, api.Fault{}
}

// plainRow is a struct, laid out by going on byte by byte, or what is wrong with it.
func plainRow(s api.Struct, given map[string]row) (row, api.Errno) {
	switch {
	case !plainIsName(s.Name):
		return row{}, api.ErrForm
	case len(s.Members) > 64:
		return row{}, api.ErrLong
	case len(s.Members) == 0:
		return row{}, api.ErrShape
	}
	x := row{align: 1, s: s}
	at := 0
	for i, m := range s.Members {
		if !plainIsName(m.Name) {
			return row{}, api.ErrForm
		}
		for _, other := range s.Members[:i] {
			if other.Name == m.Name {
				return row{}, api.ErrTwice
			}
		}
		t := string(m.Type)
		if e := plainCheck(t, given); e != api.OK {
			return row{}, e
		}
		if isOne(t, "vf") {
			return row{}, api.ErrShape
		}
		b, a := plainSize(t, given)
		for at%int(a) != 0 {
			at++
		}
		x.at = append(x.at, at)
		at += int(b)
		x.align = max(x.align, a)
	}
	for at%int(x.align) != 0 {
		at++
	}
	if at > 65536 {
		return row{}, api.ErrLong
	}
	x.bytes = float64(at)
	return x, api.OK
}

// plainScalars is an object's scalars, from a place on.
func plainScalars(t string, at int, given map[string]row) []api.Piece {
	x := cut(t)
	var l []api.Piece
	switch x.letter {
	case 'j':
	case 'a':
		b, _ := plainSize(x.of, given)
		for i := range x.count {
			l = append(l, plainScalars(x.of, at+i*int(b), given)...)
		}
	case 'S':
		for i, m := range given[x.name].s.Members {
			l = append(l, plainScalars(string(m.Type), at+given[x.name].at[i], given)...)
		}
	default:
		l = append(l, api.Piece{At: at, Type: api.Type(t)})
	}
	return l
}

// plainDeclare is the declaration as a type of what is written so far, from the name on outwards.
func plainDeclare(t, so string) string {
	x := cut(t)
	switch x.letter {
	case 'p':
		so = "*" + so
		if isOne(x.of, "af") {
			so = "(" + so + ")"
		}
		return plainDeclare(x.of, so)
	case 'a':
		return plainDeclare(x.of, so+"["+strconv.Itoa(x.count)+"]")
	case 'f':
		var l []string
		for _, p := range x.params {
			l = append(l, plainDeclare(p, ""))
		}
		if len(l) == 0 {
			l = []string{"void"}
		}
		return plainDeclare(x.of, so+"("+strings.Join(l, ", ")+")")
	}
	word := map[byte]string{'v': "void", 'c': "char", 's': "short", 'i': "int", 'u': "unsigned", 'j': "jmp_buf", 'S': "struct " + x.name}[x.letter]
	return strings.TrimSuffix(word+" "+so, " ")
}

// back reads declarations: tokens that are not read yet.
type back []string

// readBack is the type as which a text declares, and the name.
func readBack(t *testing.T, s string) (string, string) {
	t.Helper()
	l, f := lex.Tokens(s)
	if f.Code != api.OK {
		t.Fatalf("%q: %v", s, f)
	}
	var b back
	for _, x := range l {
		if x.Kind == api.TokInt {
			x.Text = strconv.Itoa(x.Int)
		}
		b = append(b, x.Text)
	}
	code, name := b.declaration()
	if len(b) > 0 {
		t.Fatalf("%q: %q is left", s, b)
	}
	return code, name
}

func (b *back) sees(s string) bool { return len(*b) > 0 && (*b)[0] == s }

func (b *back) next() string {
	s := (*b)[0]
	*b = (*b)[1:]
	return s
}

func (b *back) declaration() (string, string) {
	word := b.next()
	if word == "struct" {
		return b.declarator("S" + b.next() + ";")
	}
	return b.declarator(map[string]string{"void": "v", "char": "c", "short": "s", "int": "i", "unsigned": "u", "jmp_buf": "j"}[word])
}

func (b *back) declarator(base string) (string, string) {
	if b.sees("*") {
		b.next()
		return b.declarator("p" + base)
	}
	if b.sees("(") && len(*b) > 1 && (*b)[1] == "*" {
		b.next()
		var inner back
		for open := 1; ; {
			s := b.next()
			if s == "(" {
				open++
			}
			if s == ")" {
				open--
			}
			if open == 0 {
				break
			}
			inner = append(inner, s)
		}
		return inner.declarator(b.behind(base))
	}
	name := ""
	if len(*b) > 0 && plainIsName((*b)[0]) {
		name = b.next()
	}
	return b.behind(base), name
}

func (b *back) behind(base string) string {
	switch {
	case b.sees("["):
		b.next()
		n := b.next()
		b.next()
		return "a" + n + ":" + b.behind(base)
	case b.sees("("):
		var l []string
		for !b.sees(")") {
			b.next()
			if p, _ := b.declaration(); p != "v" {
				l = append(l, p)
			}
		}
		b.next()
		return "f(" + strings.Join(l, ",") + ")" + b.behind(base)
	}
	return base
}

// same fails where an answer is another one than what is wanted (an empty list is as none).
func same(t *testing.T, what string, got, want any) {
	t.Helper()
	if g, w := fmt.Sprint(got), fmt.Sprint(want); g != w {
		t.Errorf("%.300q: %.600s, want %.600s", what, g, w)
	}
}

// all is what a call answers, in a row.
func all(l ...any) string { return fmt.Sprint(l...) }

// declared is the declaration of a type of its form.
func declared(t *testing.T, code, name string) string {
	t.Helper()
	s, e := types.Declare(api.Type(code), name)
	if e != api.OK {
		t.Fatalf("Declare of %.300q, %.300q: %v", code, name, e)
	}
	return s
}

// fields is a struct: its name, and its members, a name and a type each.
func fields(name string, l ...string) api.Struct {
	s := api.Struct{Name: name}
	for i := 0; i < len(l); i += 2 {
		s.Members = append(s.Members, api.Member{Name: l[i], Type: api.Type(l[i+1])})
	}
	return s
}

// chance is numbers that look as if they came by chance, and are always the same.
type chance uint32

func (c *chance) next() int {
	*c = *c*1664525 + 1013904223
	return int(*c >> 8)
}

func (c *chance) below(n int) int { return c.next() % n }

// of is one of its arguments.
func of[T any](c *chance, l ...T) T { return l[c.below(len(l))] }

// name is a name, seldom none.
func (c *chance) name() string {
	if c.below(150) == 0 {
		return of(c, "", "1a", "int", "a b", "a;", strings.Repeat("n", 32), "é")
	}
	return of(c, "a", "b", "t", "x", "S", "_", "list", "pi", strings.Repeat("n", 31))
}

// scalar is a scalar type.
func (c *chance) scalar(deep int) string {
	if deep > 0 && c.below(2) == 0 {
		return "p" + c.any(deep-1)
	}
	return of(c, "c", "s", "i", "u")
}

// object is an object type.
func (c *chance) object(deep int) string {
	if deep == 0 {
		return c.scalar(0)
	}
	switch c.below(5) {
	case 0, 1:
		return c.scalar(deep)
	case 2:
		return of(c, "j", "S"+c.name()+";")
	case 3:
		return "S" + c.name() + ";"
	}
	return "a" + of(c, "1", "2", "3", "3", "7", "10", "100") + ":" + c.object(deep-1)
}

// any is a type, seldom one that is not right.
func (c *chance) any(deep int) string {
	if c.below(100) == 0 {
		return c.odd(deep)
	}
	switch c.below(6) {
	case 0:
		return "v"
	case 1:
		var l []string
		for range c.below(4) {
			l = append(l, c.scalar(max(deep-1, 0)))
		}
		return "f(" + strings.Join(l, ",") + ")" + of(c, "v", c.scalar(max(deep-1, 0)))
	}
	return c.object(deep)
}

// odd is a type that is of its form but most often not right, or not even that.
func (c *chance) odd(deep int) string {
	in := of(c, "v", "c", "j", "St;", "a2:i", "f()v")
	if deep > 0 {
		in = c.any(deep - 1)
	}
	switch c.below(8) {
	case 0:
		return "a0:" + in
	case 1:
		return "a" + of(c, "65536", "65537", "16384", "16385", "1025", "1099511627776") + ":" + in
	case 2:
		return "f(" + in + ")" + in
	case 3:
		return "f(" + strings.Repeat("i,", 8) + "i)" + in
	case 4:
		return "a2:f(" + in + ")v"
	case 5:
		return "a3:v"
	case 6:
		return strings.Repeat("p", 40+c.below(10)) + in
	}
	return of(c, "", "x", "p", "a:i", "a01:i", "S;", "f(", "f(i,)v", "f()", "Sint;", "ii", "a1099511627777:i")
}

// structs is structs, most often right.
func (c *chance) structs() []api.Struct {
	var l []api.Struct
	for range c.below(6) {
		s := api.Struct{Name: c.name()}
		for range 1 + c.below(5) {
			t := of(c, c.scalar(2), c.object(2))
			for tries := 0; tries < 5 && types.Check(api.Type(t), l) != api.OK; tries++ {
				t = of(c, c.scalar(2), c.object(3))
			}
			if c.below(60) == 0 {
				t = of(c, c.odd(1), c.any(3), "a40000:c", "pa16385:i", strings.Repeat("p", 47)+c.any(0))
			}
			s.Members = append(s.Members, api.Member{Name: of(c, c.name(), "m"+strconv.Itoa(len(s.Members))), Type: api.Type(t)})
		}
		if c.below(100) == 0 {
			s.Members = nil
		}
		if f := types.Structs(append(l[:len(l):len(l)], s)); f.Code == api.OK || c.below(12) == 0 {
			l = append(l, s)
		}
	}
	return l
}
