package check_test

import (
	"slices"
	"strconv"
	"strings"
	"testing"

	"catapult/api"
	"catapult/check"
	"catapult/lex"
	"catapult/names"
	"catapult/types"
)

// The plainest judge of core programs: what a node of a value makes of its parts stands in a table of patterns; statements are gone over from the whole on.

// patterns is what nodes of values may be: the kind, the parts' types, > and the type of the whole. Small letters stand for themselves; a great one for one type in all of its line: W, X, Y whole numbers, R one of i and u, S, Q scalars, Z a struct, O what has a size, N what is no function, F a function, T, U any type.
const patterns = `
	load pS > S
	store pS S > S
	copy pZ pZ > pZ
	conv W > X
	conv pN > pM
	conv pF > pG
	conv T > v
	neg R > R
	compl R > R
	not S > i
	add R R > R
	sub R R > R
	mul R R > R
	div R R > R
	rem R R > R
	and R R > R
	or R R > R
	xor R R > R
	shl R i > R
	shr R i > R
	lt R R > i
	lt pO pO > i
	le R R > i
	le pO pO > i
	eq R R > i
	eq pT pT > i
	ne R R > i
	ne pT pT > i
	plus pO i > pO
	minus pO pO > i
	both S Q > i
	one S Q > i
	cond S T T > T
	comma T U > U
	incr pW > W
	incr ppO > pO
	update pW R > W
	update ppO i > pO
`

// plainJudge is a core program that is looked at.
type plainJudge struct {
	c      api.Core
	f      api.CoreFunc
	answer string
}

// size is the size of a type, 0 if it has none.
func (j *plainJudge) size(s string) int {
	n, _, e := types.Size(api.Type(s), j.c.Structs)
	if e != api.OK {
		return 0
	}
	return n
}

// fits tells whether a type may be what a great letter stands for.
func (j *plainJudge) fits(letter byte, s string) bool {
	if s == "" {
		return false
	}
	switch letter {
	case 'W', 'X':
		return isNumber(s)
	case 'R':
		return s == "i" || s == "u"
	case 'S', 'Q':
		return isScalarType(s)
	case 'Z':
		return s[0] == 'S'
	case 'O':
		return j.size(s) > 0
	case 'N', 'M':
		return s[0] != 'f'
	case 'F', 'G':
		return s[0] == 'f'
	}
	return letter == 'T' || letter == 'U'
}

// matches tells whether a type is as a pattern says; what letters stand for is kept.
func (j *plainJudge) matches(pattern, s string, bound map[byte]string) bool {
	for strings.HasPrefix(pattern, "p") {
		var ok bool
		pattern = pattern[1:]
		if s, ok = strings.CutPrefix(s, "p"); !ok {
			return false
		}
	}
	letter := pattern[0]
	if letter >= 'a' {
		return pattern == s
	}
	if was, ok := bound[letter]; ok {
		return was == s
	}
	bound[letter] = s
	return j.fits(letter, s)
}

// row is what letters stand for in a line of the patterns, with ok.
func (j *plainJudge) row(l string, k knot) (map[byte]string, bool) {
	name, l, _ := strings.Cut(strings.TrimSpace(l), " ")
	parts, whole, _ := strings.Cut(l, " > ")
	words := strings.Fields(parts)
	if name != kindName(k.Kind) || len(words) != len(k.parts) {
		return nil, false
	}
	bound := map[byte]string{}
	for i, p := range k.parts {
		if !j.matches(words[i], string(p.Type), bound) {
			return nil, false
		}
	}
	return bound, j.matches(whole, string(k.Type), bound)
}

// isRightPointer tells whether a type is a pointer that may be: of its form, not too deep but for one level.
func (j *plainJudge) isRightPointer(s string) bool {
	inner, ok := strings.CutPrefix(s, "p")
	return ok && (types.Check(api.Type(s), j.c.Structs) == api.OK || types.Check(api.Type(inner), j.c.Structs) == api.OK)
}

// isFree tells whether a number and a text that a node has are those of its kind.
func (j *plainJudge) isFree(k knot, bound map[byte]string) bool {
	size := j.size(bound['O'])
	switch k.Kind {
	case api.KConv:
		return k.Type == "v" || isNumber(string(k.Type)) || j.isRightPointer(string(k.Type))
	case api.KPlus, api.KMinus:
		return k.Int == size
	case api.KIncr:
		if bound['W'] != "" {
			size = 1
		}
		return (k.Int == size || k.Int == -size) && (k.Text == "pre" || k.Text == "post")
	case api.KUpdate:
		w, r := bound['W'], bound['R']
		switch {
		case w == "":
			return k.Int == api.KPlus && k.Text == strconv.Itoa(size)
		case k.Int == api.KShl || k.Int == api.KShr:
			return k.Text == up(w) && r == "i"
		}
		return k.Int >= api.KAdd && k.Int <= api.KXor && k.Text == r && meeting(w, r) == r
	}
	return true
}

// value tells whether a node of a value is right, all its parts, too.
func (j *plainJudge) value(k knot) bool {
	if k.Kind < api.KInt || k.Kind > api.KBuilt || !isNode(k) {
		return false
	}
	var l []api.Type
	for _, p := range k.parts {
		if !j.value(p) {
			return false
		}
		l = append(l, p.Type)
	}
	switch {
	case k.Kind <= api.KString:
		return len(l) == 0 && j.leaf(k)
	case k.Kind == api.KField:
		return len(l) == 1 && j.field(k)
	case k.Kind == api.KCall && len(l) > 0:
		want, e := types.Func(k.Type, l[1:]...)
		return e == api.OK && l[0] == "p"+want
	case k.Kind == api.KBuilt:
		want, e := types.Func(k.Type, l...)
		return e == api.OK && slices.Contains(names.Built(), api.Var{Name: k.Text, Type: want})
	}
	for line := range strings.Lines(strings.TrimSpace(patterns)) {
		if bound, ok := j.row(line, k); ok {
			return j.isFree(k, bound)
		}
	}
	return false
}

// isNode tells whether what a node of any kind has may be its own, as far as its kind alone tells.
func isNode(k knot) bool {
	numbers := []int{api.KInt, api.KLocal, api.KString, api.KPlus, api.KMinus, api.KField, api.KUpdate, api.KIncr, api.SDecl, api.SLoop, api.SCase}
	texts := []int{api.KFunc, api.KGlobal, api.KUpdate, api.KIncr, api.KBuilt}
	return k.At >= 0 && k.At <= 65536 && (k.Int == 0 || slices.Contains(numbers, k.Kind)) && (k.Text == "" || slices.Contains(texts, k.Kind))
}

// leaf tells whether a node without parts is right.
func (j *plainJudge) leaf(k knot) bool {
	switch k.Kind {
	case api.KInt:
		switch k.Type {
		case "c":
			return k.Int == int(int8(k.Int))
		case "s":
			return k.Int == int(int16(k.Int))
		case "i":
			return k.Int == int(int32(k.Int))
		}
		return k.Type == "u" && k.Int == int(uint32(k.Int))
	case api.KNull:
		return j.isRightPointer(string(k.Type))
	case api.KFunc:
		i := slices.IndexFunc(j.c.Funcs, func(f api.CoreFunc) bool { return f.Name == k.Text })
		return i >= 0 && k.Type == "p"+j.c.Funcs[i].Type
	case api.KLocal:
		return k.Int >= 0 && k.Int < len(j.f.Slots) && k.Type == "p"+j.f.Slots[k.Int].Type
	case api.KGlobal:
		i := slices.IndexFunc(j.c.Globals, func(g api.CoreVar) bool { return g.Name == k.Text })
		return i >= 0 && k.Type == "p"+j.c.Globals[i].Type
	}
	return k.Int >= 0 && k.Int < len(j.c.Strings) && string(k.Type) == "pa"+strconv.Itoa(len(j.c.Strings[k.Int])+1)+":c"
}

// field tells whether a KField is right.
func (j *plainJudge) field(k knot) bool {
	t, _ := strings.CutPrefix(string(k.parts[0].Type), "p")
	if _, elem, ok := strings.Cut(t, ":"); ok && t[0] == 'a' {
		return k.Int == 0 && string(k.Type) == "p"+elem
	}
	for _, s := range j.c.Structs {
		for _, m := range s.Members {
			at, _, e := types.Member(j.c.Structs, s.Name, m.Name)
			if t == "S"+s.Name+";" && e == api.OK && at == k.Int && k.Type == "p"+m.Type {
				return true
			}
		}
	}
	return false
}

// around is what stands around a statement.
type around struct {
	mayBreak, mayCont bool
	labels            *[]string // of the switch whose own statement it is
}

// stmt tells whether a statement is right.
func (j *plainJudge) stmt(k knot, a around) bool {
	if k.Type != "" || !isNode(k) {
		return false
	}
	inner := around{a.mayBreak, a.mayCont, nil}
	p := k.parts
	each := func(l []knot, a around) bool {
		return !slices.ContainsFunc(l, func(k knot) bool { return !j.stmt(k, a) })
	}
	isScalar := func(i int) bool { return j.deciding(p[i]) && isScalarType(string(p[i].Type)) }
	switch k.Kind {
	case api.SExpr:
		return len(p) == 1 && j.deciding(p[0])
	case api.SBlock:
		return each(p, inner)
	case api.SDecl:
		ok := k.Int >= 0 && k.Int < len(j.f.Slots) && !j.f.Slots[k.Int].Param
		return ok && (len(p) == 0 || len(p) == 1 && j.still(p[0]) && p[0].Type == j.f.Slots[k.Int].Type && isScalarType(string(p[0].Type)))
	case api.SIf:
		return (len(p) == 2 || len(p) == 3) && isScalar(0) && each(p[1:], inner)
	case api.SLoop:
		aside := func(k knot) bool {
			return k.Kind == api.SNone && len(k.parts) == 0 && isNode(k) && k.Type == "" || j.stmt(k, around{})
		}
		return len(p) == 4 && k.Int&^1 == 0 && aside(p[0]) && isScalar(1) && aside(p[2]) && j.stmt(p[3], around{true, true, nil})
	case api.SSwitch:
		if len(p) != 2 || !j.deciding(p[0]) || p[0].Type != "i" || p[1].Kind != api.SBlock || p[1].Type != "" || !isNode(p[1]) {
			return false
		}
		return each(p[1].parts, around{true, a.mayCont, &[]string{}})
	case api.SCase, api.SOther:
		label := "default"
		if k.Kind == api.SCase {
			label = strconv.Itoa(k.Int)
		}
		if len(p) != 1 || a.labels == nil || slices.Contains(*a.labels, label) || k.Int != int(int32(k.Int)) {
			return false
		}
		*a.labels = append(*a.labels, label)
		return j.stmt(p[0], a)
	case api.SBreak:
		return len(p) == 0 && a.mayBreak
	case api.SCont:
		return len(p) == 0 && a.mayCont
	case api.SReturn:
		if j.answer == "v" {
			return len(p) == 0
		}
		return len(p) == 1 && j.still(p[0]) && string(p[0].Type) == j.answer
	}
	return false
}

// sets is how many calls of setjmp a value has.
func sets(k knot) int {
	n := 0
	for _, p := range k.parts {
		n += sets(p)
	}
	if k.Kind == api.KBuilt && k.Text == "setjmp" {
		n++
	}
	return n
}

// still tells whether a value is right, and has no setjmp.
func (j *plainJudge) still(k knot) bool { return j.value(k) && sets(k) == 0 }

// deciding tells whether a value is right, and setjmp, if it has one, stands where it may.
func (j *plainJudge) deciding(k knot) bool {
	if !j.value(k) || sets(k) > 1 {
		return false
	}
	for sets(k) > 0 && k.Kind != api.KBuilt {
		if !slices.Contains([]int{api.KNot, api.KConv, api.KLt, api.KLe, api.KEq, api.KNe}, k.Kind) {
			return false
		}
		next := k.parts[0]
		for _, p := range k.parts {
			if sets(p) > 0 {
				next = p
				continue
			}
			for _, n := range p.flat() {
				if n.Kind != api.KInt && n.Kind != api.KNull && (n.Kind < api.KConv || n.Kind > api.KNe) && n.Kind != api.KBoth && n.Kind != api.KOne && n.Kind != api.KCond {
					return false
				}
			}
		}
		k = next
	}
	return sets(k) == 0 || k.Text == "setjmp"
}

// knotted is a core tree, nested, with ok.
func knotted(t api.Tree) (knot, bool) {
	var l []knot
	for _, n := range t {
		if n.N < 0 || n.N > len(l) {
			return knot{}, false
		}
		rest := len(l) - n.N
		l = append(l[:rest], knot{n, slices.Clone(l[rest:])})
	}
	if len(l) != 1 {
		return knot{}, false
	}
	return l[0], true
}

// levels is how deep a knot is.
func levels(k knot) int {
	n := 0
	for _, p := range k.parts {
		n = max(n, levels(p))
	}
	return n + 1
}

// function tells whether a function is right, but for its name.
func (j *plainJudge) function() bool {
	answer, params, e := types.Sign(j.f.Type)
	if e != api.OK || types.Check(j.f.Type, j.c.Structs) != api.OK || len(j.f.Slots) > 256 {
		return false
	}
	var l []api.Type
	for i, s := range j.f.Slots {
		if j.size(string(s.Type)) == 0 || s.Param && i >= len(params) {
			return false
		}
		if s.Param {
			l = append(l, s.Type)
		}
	}
	k, ok := knotted(j.f.Body)
	j.answer = string(answer)
	return slices.Equal(l, params) && ok && k.Kind == api.SBlock && len(j.f.Body) <= 32768 && levels(k) <= 384 && j.stmt(k, around{})
}

// global tells whether a global is right, but for its name.
func (j *plainJudge) global(g api.CoreVar) bool {
	if j.size(string(g.Type)) == 0 {
		return false
	}
	p := &plain{u: api.Unit{Structs: j.c.Structs}}
	pieces := p.pieces(string(g.Type))
	if len(g.Init) > len(pieces) {
		return false
	}
	for i, n := range g.Init {
		t := string(n.Type)
		isPointer, toFunction := strings.HasPrefix(t, "p"), strings.HasPrefix(t, "pf")
		if n.N < 0 || n.N > 65536 || t != pieces[i] || !isNode(knot{Node: n}) {
			return false
		}
		ok := false
		switch n.Kind {
		case api.KInt:
			ok = j.leaf(knot{Node: n})
		case api.KNull:
			ok = isPointer
		case api.KFunc:
			ok = toFunction && slices.ContainsFunc(j.c.Funcs, func(f api.CoreFunc) bool { return f.Name == n.Text })
		case api.KGlobal:
			ok = isPointer && !toFunction && slices.ContainsFunc(j.c.Globals, func(g api.CoreVar) bool { return g.Name == n.Text })
		case api.KString:
			ok = isPointer && !toFunction && n.Int >= 0 && n.Int < len(j.c.Strings)
		}
		if !ok {
			return false
		}
	}
	return true
}

// plainCheck is what Check tells of a program that is not too long and whose structs are right.
func plainCheck(c api.Core) api.Fault {
	var ahead []string
	for _, v := range names.Built() {
		ahead = append(ahead, v.Name)
	}
	isNew := func(name string) bool {
		ok := lex.IsName(name) && !slices.Contains(ahead, name)
		ahead = append(ahead, name)
		return ok
	}
	for i, g := range c.Globals {
		if j := (&plainJudge{c: c}); !isNew(g.Name) || !j.global(g) {
			return api.Fault{At: i, Code: api.ErrType}
		}
	}
	isMain := false
	for i, f := range c.Funcs {
		if j := (&plainJudge{c: c, f: f}); !isNew(f.Name) || !j.function() {
			return api.Fault{At: i, Code: api.ErrTree}
		}
		isMain = isMain || f.Name == "main" && f.Type == "f()i"
	}
	if !isMain {
		return api.Fault{Code: api.ErrMain}
	}
	return api.Fault{}
}

// spoiled is a node with one thing changed.
func (c *chance) spoiled(n api.Node, from api.Tree) api.Node {
	other := from[c.below(len(from))]
	switch c.below(8) {
	case 0:
		n.Kind = of(c, n.Kind+1, n.Kind-1, other.Kind)
	case 1:
		n.Int = of(c, n.Int+1, n.Int-1, -n.Int, other.Int, 0, 1, 4, 1<<31, -1)
	case 2:
		n.Text = of(c, "", "i", "u", "4", "1", "pre", "post", other.Text, "setjmp", "f", "main", "z")
	case 3, 4:
		n.Type = of(c, n.Type+"", "p"+n.Type, other.Type, "i", "u", "c", "pi", "pv", "v", "", "pf(i)i", "pSt;", "St;")
	case 5:
		n.Type = api.Type(strings.TrimPrefix(string(n.Type), "p"))
	case 6:
		n.N = of(c, n.N+1, n.N-1, other.N)
	case 7:
		other.N = n.N
		n = other
	}
	return n
}

// spoil changes something in a program.
func (c *chance) spoil(x *api.Core) {
	f := &x.Funcs[c.below(len(x.Funcs))]
	if len(f.Body) == 0 {
		return
	}
	f.Body = slices.Clone(f.Body)
	at := c.below(len(f.Body))
	switch c.below(14) {
	case 0:
		f.Body = slices.Delete(f.Body, at, at+1)
	case 1:
		f.Body = slices.Insert(f.Body, at, f.Body[c.below(len(f.Body))])
	case 2:
		other := c.below(len(f.Body))
		f.Body[at], f.Body[other] = f.Body[other], f.Body[at]
	case 3:
		f.Body = slices.Insert(f.Body, at+1, of(c, api.Node{Kind: api.KConv, N: 1, Type: f.Body[at].Type}, api.Node{Kind: api.KNot, N: 1, Type: "i"}, api.Node{Kind: api.SBlock, N: 1}, api.Node{Kind: api.SCase, N: 1, Int: c.below(5)}, api.Node{Kind: api.SExpr, N: 1}, api.Node{Kind: api.KNeg, N: 1, Type: "i"}))
	case 4:
		if len(f.Slots) > 0 {
			f.Slots = slices.Clone(f.Slots)
			s := &f.Slots[c.below(len(f.Slots))]
			*s = of(c, api.Slot{Type: s.Type, Param: !s.Param}, api.Slot{Type: "i", Param: s.Param}, api.Slot{Type: of[api.Type](c, "v", "pSt;", "Snone;", "c"), Param: s.Param})
		}
	case 5:
		g := &x.Globals[c.below(len(x.Globals))]
		if len(g.Init) > 0 {
			g.Init = slices.Clone(g.Init)
			i := c.below(len(g.Init))
			g.Init[i] = c.spoiled(g.Init[i], append(f.Body, g.Init...))
		}
	case 6:
		g := &x.Globals[c.below(len(x.Globals))]
		*g = of(c, api.CoreVar{Name: f.Name, Type: g.Type}, api.CoreVar{Name: g.Name, Type: f.Body[at].Type}, api.CoreVar{Name: g.Name, Type: g.Type, Init: append(slices.Clone(g.Init), f.Body[at])}, *g)
	case 7:
		f.Type = of(c, f.Type, "f()i", "f(i)i", "f()v", f.Type+"i")
	default:
		f.Body[at] = c.spoiled(f.Body[at], f.Body)
	}
}

// 13.3: programs by chance, spoiled or not, held against the plainest judge.
func TestAgainstThePlainestJudge(t *testing.T) {
	count := map[api.Errno]int{}
	for seed := range 900 {
		u, s := grown(t, seed)
		if s == "" {
			continue
		}
		good, f := check.Unit(u)
		if f != fine {
			continue
		}
		same(t, s, plainCheck(good), fine)
		c := chance(seed*31 + 5)
		for range 12 {
			x := good
			x.Funcs, x.Globals = slices.Clone(good.Funcs), slices.Clone(good.Globals)
			for range 1 + c.below(3)/2 {
				c.spoil(&x)
			}
			f := check.Check(x)
			count[f.Code]++
			if want := plainCheck(x); f != want {
				t.Fatalf("%s:\n%v, not %v:\n%v\n%v", s, f, want, x.Globals, x.Funcs)
			}
		}
	}
	for code, least := range map[api.Errno]int{api.OK: 500, api.ErrTree: 2000, api.ErrType: 150, api.ErrMain: 10} {
		if count[code] < least {
			t.Errorf("%d came %d times of %v", code, count[code], count)
		}
	}
}
