package types_test

import (
	"strings"
	"testing"

	"catapult/api"
	"catapult/types"
)

// rightStructs is structs by chance that are right.
func (c *chance) rightStructs() []api.Struct {
	for {
		if l := c.structs(); types.Structs(l).Code == api.OK {
			return l
		}
	}
}

// 8.5: sizes are multiples of alignments; scalars and members stand one behind the other, aligned, within the size.
func TestPlaces(t *testing.T) {
	for seed := range 10000 {
		c := chance(seed*2003 + 6)
		l := c.rightStructs()
		size := func(s api.Type) (int, int) {
			n, align, e := types.Size(s, l)
			if e != api.OK || n < 1 || align < 1 || n%align != 0 || n > 65536 {
				t.Fatalf("%q with %v: %d %d %v", s, l, n, align, e)
			}
			return n, align
		}
		stands := func(s api.Type, free, at int, part api.Type, within int) int {
			n, align := size(part)
			if at < free || at%align != 0 || at+n > within {
				t.Fatalf("%q of %q with %v: %d, free from %d, to %d", part, s, l, at, free, within)
			}
			return at + n
		}
		for _, x := range l {
			whole := api.Type("S" + x.Name + ";")
			n, align := size(whole)
			free := 0
			for _, m := range x.Members {
				at, code, e := types.Member(l, x.Name, m.Name)
				same(t, m.Name, all(code, e), all(m.Type, api.OK))
				to := stands(whole, free, at, m.Type, n)
				if _, a := size(m.Type); align%a != 0 || at-free >= a {
					t.Fatalf("%q of %q with %v: at %d, free from %d, %d", m.Name, whole, l, at, free, align)
				}
				free = to
			}
			if n-free >= align {
				t.Fatalf("%q with %v: %d, free from %d", whole, l, n, free)
			}
			pieces, e := types.Scalars(whole, l)
			free = 0
			for _, p := range pieces {
				free = stands(whole, free, p.At, p.Type, n)
				same(t, string(p.Type), types.IsScalar(p.Type), true)
			}
			same(t, "scalars", e == api.OK || e == api.ErrLong && len(pieces) == 0, true)
		}
	}
}

// 8.5: an array's scalars are its member's, so many times.
func TestScalarsOfArrays(t *testing.T) {
	for seed := range 5000 {
		c := chance(seed*1009 + 7)
		l := c.rightStructs()
		s := api.Type(c.object(3))
		n, align, e := types.Size(s, l)
		if e != api.OK || n > 6000 || plainDepth(string(s)) == 48 {
			continue
		}
		of, e := types.Scalars(s, l)
		if e != api.OK || len(of) > 800 {
			continue
		}
		var want []api.Piece
		for i := range 5 {
			for _, p := range of {
				want = append(want, api.Piece{At: p.At + i*n, Type: p.Type})
			}
		}
		got, e := types.Scalars("a5:"+s, l)
		same(t, string(s), all(got, e), all(want, api.OK))
		five, alike, e := types.Size("a5:"+s, l)
		same(t, string(s), all(five, alike, e), all(5*n, align, api.OK))
	}
}

// 8.6: Common turns about, and is its own promotion; Decay and Promote, done twice, are as done once.
func TestTwiceIsOnce(t *testing.T) {
	for seed := range 20000 {
		c := chance(seed*4001 + 8)
		a, b := of(&c, c.any(3), c.scalar(0), c.odd(2)), of(&c, c.any(3), c.scalar(0), c.scalar(0))
		there := common(a, b)
		same(t, a+" and "+b, common(b, a), there)
		if to, isInt := strings.CutSuffix(there, " 0"); isInt {
			same(t, a+" and "+b, one(types.Promote, to), there)
			same(t, a+" and "+b, all(common(to, to), common(a, to), common(to, b)), all(there, there, there))
			same(t, a+" and "+b, all(types.IsInt(api.Type(a)), types.IsInt(api.Type(b))), all(true, true))
		}
		for _, call := range []func(api.Type) (api.Type, api.Errno){types.Decay, types.Promote} {
			once := one(call, a)
			if to, isType := strings.CutSuffix(once, " 0"); isType {
				same(t, a, one(call, to), once)
			}
		}
	}
}

// 8.7: Elem and Sign take apart what p, a and Func put together.
func TestTakenApart(t *testing.T) {
	for seed := range 20000 {
		c := chance(seed*3001 + 9)
		s := c.any(3)
		if !plainForm(s) {
			continue
		}
		same(t, s, elem("p"+s), s+" 0 0")
		n := of(&c, "0", "1", "2", "10", "65537", "1099511627776")
		same(t, s, elem("a"+n+":"+s), s+" "+n+" 0")
		var params []api.Type
		row := s
		for range c.below(9) {
			p := c.any(2)
			if plainForm(p) {
				params = append(params, api.Type(p))
				row += " " + p
			}
		}
		f, e := types.Func(api.Type(s), params...)
		same(t, s, all(sign(string(f)), e), all(row+" 0", api.OK))
		same(t, s, one(types.Decay, string(f)), "p"+string(f)+" 0")
		same(t, s, elem("p"+string(f)), string(f)+" 0 0")
	}
}

// R4: what is handed in is not written to, nor what stands behind it; what is answered may be written over.
func TestOwnMemory(t *testing.T) {
	for seed := range 300 {
		c := chance(seed*5003 + 10)
		l := append(make([]api.Struct, 0, 40), c.rightStructs()...)
		for i := range l {
			l[i].Members = append(make([]api.Member, 0, 20), l[i].Members...)
		}
		l = append(l, fields("last", "m", "a3:c", "n", "j"))
		params := append(make([]api.Type, 0, 20), "i", "pc", "u")
		looked := func() string {
			row := all(l[:cap(l)], params[:cap(params)])
			for _, x := range l {
				row += all(x.Members[:cap(x.Members)])
			}
			return row
		}
		before := looked()
		pieces, _ := types.Scalars("a2:Slast;", l)
		types.Check("Slast;", l)
		types.Size("Slast;", l)
		types.Member(l, "last", "n")
		types.Structs(l)
		f, _ := types.Func("v", params...)
		_, parts, _ := types.Sign(f)
		same(t, "handed in", looked(), before)
		was := all(pieces, parts, f)
		other, _ := types.Scalars("a2:Slast;", l)
		_, otherParts, _ := types.Sign(f)
		pieces, parts = pieces[:cap(pieces)], parts[:cap(parts)]
		for i := range pieces {
			pieces[i] = api.Piece{At: -1, Type: "wiped"}
		}
		for i := range parts {
			parts[i] = "wiped"
		}
		for i := range params {
			params[i] = "wiped"
		}
		for i := range l {
			l[i] = api.Struct{}
		}
		same(t, "other answers", all(other, otherParts, f), was)
	}
}

// P1, R1, R3, R5: every call answers, whatever it is handed, the same in any order, and an error alone.
func TestAnswersHangOnArgumentsAlone(t *testing.T) {
	const calls = 3000
	ask := func(seed int) string {
		c := chance(seed*7 + 11)
		l := c.structs()
		b := []byte(c.any(3) + " ")
		b[c.below(len(b))] = byte(of(&c, c.below(256), int("vcip;:(,)aSf09"[c.below(14)])))
		s := api.Type(of(&c, string(b), string(b[:len(b)-1]), c.any(4)))
		form := types.Form(s)
		size, align, e1 := types.Size(s, l)
		pieces, e2 := types.Scalars(s, l)
		at, member, e3 := types.Member(l, c.name(), c.name())
		to, n, e4 := types.Elem(s)
		answer, params, e5 := types.Sign(s)
		f, e6 := types.Func(s, s, "i", s)
		decayed, e7 := types.Decay(s)
		promoted, e8 := types.Promote(s)
		met, e9 := types.Common(s, of(&c, "c", "u", s))
		text, e10 := types.Declare(s, c.name())
		for i, x := range []struct {
			e      api.Errno
			answer string
			none   string
		}{
			{e1, all(size, align), all(0, 0)}, {e2, all(pieces), "[]"}, {e3, all(at, member), all(0, "")}, {e4, all(to, n), all("", 0)}, {e5, all(answer, params), all("", "[]")},
			{e6, string(f), ""}, {e7, string(decayed), ""}, {e8, string(promoted), ""}, {e9, string(met), ""}, {e10, text, ""},
		} {
			if x.e != api.OK && x.answer != x.none {
				t.Fatalf("%q: call %d: %q beside %v", s, i, x.answer, x.e)
			}
			if i > 2 && !form && x.e != api.ErrForm {
				t.Fatalf("%q: call %d: %v", s, i, x.e)
			}
		}
		return all(form, types.Check(s, l), types.Structs(l), size, align, e1, pieces, e2, at, member, e3, to, n, e4, answer, params, e5, f, e6, decayed, e7, promoted, e8, met, e9, text, e10, types.IsInt(s), types.IsScalar(s))
	}
	var there []string
	for seed := range calls {
		there = append(there, ask(seed))
	}
	for seed := calls - 1; seed >= 0; seed-- {
		if again := ask(seed); again != there[seed] {
			t.Fatalf("call %d: %.400s, was %.400s", seed, again, there[seed])
		}
	}
}

// P1: texts of any bytes, and many structs.
func TestEveryCallAnswers(t *testing.T) {
	for _, s := range []string{"", "\x00", "p\x00", "a", "aa", "a:", "a-:i", "S", "S ", "S;", "S ;", "f", "f(", "f(,", "f()", "f(f(f(", ")))", strings.Repeat("f(", 70000), strings.Repeat("p", 70000), strings.Repeat("S", 70000), strings.Repeat("a", 70000), strings.Repeat("f(i,", 16000), strings.Repeat("a9:", 21000), "a" + strings.Repeat("0", 70000) + ":i"} {
		code := api.Type(s)
		to, _, e := types.Elem(code)
		_, e2 := types.Decay(code)
		_, e3 := types.Promote(code)
		_, e4 := types.Common(code, "i")
		_, e5 := types.Common("i", code)
		_, _, e6 := types.Sign(code)
		_, e7 := types.Func(code, code)
		_, e8 := types.Declare(code, "x")
		_, _, e9 := types.Size(code, nil)
		same(t, s, all(types.Form(code), types.Check(code, nil), to, e, e2, e3, e4, e5, e6, e7, e8, e9), all(false, api.ErrForm, "", api.ErrForm, api.ErrForm, api.ErrForm, api.ErrForm, api.ErrForm, api.ErrForm, api.ErrForm, api.ErrForm, api.ErrForm))
	}
	f := types.Structs(make([]api.Struct, 1<<20))
	same(t, "a million structs", f, api.Fault{Code: api.ErrLong})
	f = types.Structs([]api.Struct{{Name: "a", Members: make([]api.Member, 1<<20)}})
	same(t, "a million members", f, api.Fault{Code: api.ErrLong})
	got, e := types.Func("v", make([]api.Type, 1<<20)...)
	same(t, "a million parameters of no form", all(got, e), all("", api.ErrForm))
}
