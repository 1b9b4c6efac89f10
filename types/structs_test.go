package types_test

import (
	"strconv"
	"strings"
	"testing"

	"catapult/api"
	"catapult/types"
)

// numbered is so many members of a type, or structs of a member.
func numbered(n int, code string) []string {
	var l []string
	for i := range n {
		l = append(l, "m"+strconv.Itoa(i), code)
	}
	return l
}

// 8.1, Structs: those that are right.
func TestRightStructs(t *testing.T) {
	for _, l := range [][]api.Struct{
		nil, {}, pair(),
		{fields("a", "a", "c")}, {fields("a", "b", "a65536:c")}, {fields("a", "b", "j", "c", "pj")}, {fields("t", "t", "i"), fields("u", "t", "St;", "u", "a3:St;")},
		{fields("a", "self", "pSa;", "later", "pSb;", "never", "pSc;", "call", "pf(pSa;,pSc;)pSb;", "many", "pa65536:Sb;"), fields("b", "a", "Sa;")},
		{fields("a", "great", "pa65536:Sa;", "more", "ppa9:a65536:Sa;")},
		{fields("a", numbered(64, "a1024:c")...)}, {fields("a", numbered(64, "j")...)}, {fields("a", "x", "c", "y", "a16383:i")},
		{fields(strings.Repeat("n", 31), strings.Repeat("m", 31), "i")}, {fields("S", "S", "c"), fields("s", "S", "SS;", "s", "i")}, {fields("a", "x", "i"), fields("b", "x", "Sa;")},
		{fields("a", "deep", strings.Repeat("p", 47)+"i"), fields("b", "deep", strings.Repeat("a1:", 47)+"Sa;"), fields("c", "deep", strings.Repeat("a1:", 47)+"Sb;")},
	} {
		same(t, all(l), types.Structs(l), api.Fault{})
	}
	var most []api.Struct
	for i := range 64 {
		most = append(most, fields("s"+strconv.Itoa(i), numbered(64, "i")...))
	}
	same(t, "the most", types.Structs(most), api.Fault{})
	most[0].Members = nil
	same(t, "one more, whatever it is", types.Structs(append(most, api.Struct{})), api.Fault{Code: api.ErrLong})
}

// 8.1, Structs: those that are not right, the last one of each row.
func TestWrongStructs(t *testing.T) {
	for code, l := range map[api.Errno][]api.Struct{
		api.ErrForm:  {fields("", "m", "i"), fields("1", "m", "i"), fields("int", "m", "i"), fields("a b", "m", "i"), fields(strings.Repeat("n", 32), "m", "i"), fields("a", "", "i"), fields("a", "9", "i"), fields("a", "m", "i", "volatile", "i"), fields("a", strings.Repeat("n", 32), "i"), fields("a", "m", ""), fields("a", "m", "x"), fields("a", "m", "i", "n", "Sok"), fields("a", "m", "S ok;"), fields("a", "m", "i", "n", "pS a;"), fields("a", "m", "a2:S ok;"), fields(" a", "m", "i")},
		api.ErrTwice: {fields("ok", "m", "i"), fields("a", "m", "i", "m", "i"), fields("a", "m", "i", "n", "c", "m", "pv")},
		api.ErrLong:  {fields("a", numbered(65, "c")...), fields("a", "m", "a65536:i"), fields("a", "m", strings.Repeat("p", 48)+"i"), fields("a", "m", "a65536:c", "n", "c"), fields("a", "m", "i", "n", "a65533:c"), fields("a", "m", "a16384:i", "n", "c"), fields("a", "m", "pa16385:i"), fields("a", "m", "pa16385:Sok;"), fields("a", numbered(64, "a1025:c")...), fields("a", "m", "c", "n", "a65535:c", "o", "c"), fields("a", "m", "i", "n", "a16384:i"), fields("a", numbered(64, "a65536:c")...)},
		api.ErrShape: {fields("a"), {Name: "a", Members: []api.Member{}}, fields("a", "m", "v"), fields("a", "m", "f()v"), fields("a", "m", "a0:i"), fields("a", "m", "i", "n", "f(i)i"), fields("a", "m", "pa0:Sa;"), fields("a", "m", "a2:v"), fields("a", "m", "a65537:c"), fields("a", "m", "f(v)v")},
		api.ErrNone:  {fields("a", "m", "Sa;"), fields("a", "m", "a2:Sa;"), fields("a", "m", "Sb;"), fields("a", "m", "i", "n", "Slater;"), fields("a", "m", "a65536:Sa;")},
	} {
		for _, s := range l {
			same(t, all(s), types.Structs([]api.Struct{fields("ok", "m", "i"), s, fields("later", "m", "x")}), api.Fault{At: 1, Code: code})
		}
	}
}

// 8.1, Structs: of several things that are wrong with a struct the first one in the chapter's order, members in theirs.
func TestFirstThingWrongInAStruct(t *testing.T) {
	many, great := numbered(65, "x"), strings.Repeat("p", 48)
	for _, x := range []struct {
		s    api.Struct
		want api.Errno
	}{
		{fields("1", many...), api.ErrForm}, {fields("1"), api.ErrForm}, {fields("int", "m", "v"), api.ErrForm},
		{fields("ok", many...), api.ErrTwice}, {fields("ok"), api.ErrTwice}, {fields("ok", "1", "x"), api.ErrTwice},
		{fields("a", many...), api.ErrLong}, {fields("a", append(many, "m0", "i")...), api.ErrLong}, {fields("a", append([]string{"1", "v"}, many...)...), api.ErrLong},
		{fields("a", "1", "a0:i"), api.ErrForm}, {fields("a", "m", "i", "m", "x"), api.ErrTwice}, {fields("a", "m", "i", "m", great+"i"), api.ErrTwice}, {fields("a", "1", "i", "1", "i"), api.ErrForm},
		{fields("a", "m", "a0:i", "1", "i"), api.ErrShape}, {fields("a", "m", "v", "m", "x"), api.ErrShape}, {fields("a", "m", "Sa;", "1", "x"), api.ErrNone}, {fields("a", "m", "x", "n", "v"), api.ErrForm}, {fields("a", "m", "a65536:i", "n", "x"), api.ErrLong}, {fields("a", "m", great+"v", "n", "x"), api.ErrLong},
		{fields("a", "m", "a65536:c", "n", "c", "o", "v"), api.ErrShape}, {fields("a", "m", "a65536:c", "n", "c", "o", "Sa;"), api.ErrNone}, {fields("a", "m", "a65536:c", "n", "c", "m", "i"), api.ErrTwice}, {fields("a", "m", "a65536:c", "n", "c", "1", "i"), api.ErrForm},
		{fields("a", "m", "f(a0:i)v"), api.ErrShape}, {fields("a", "m", "f()Sa;"), api.ErrShape}, {fields("a", "m", "f(pa16385:i)v"), api.ErrLong}, {fields("a", "m", "f("+great+"i)v"), api.ErrLong},
	} {
		same(t, all(x.s), types.Structs([]api.Struct{fields("ok", "m", "i"), x.s, fields("ok")}), api.Fault{At: 1, Code: x.want})
	}
}

// 8.1, Structs: of several structs that are not right the first one.
func TestFirstStructWrong(t *testing.T) {
	bad := map[api.Errno]api.Struct{api.ErrForm: fields("1", "m", "i"), api.ErrTwice: fields("a", "m", "i", "m", "i"), api.ErrShape: fields("a"), api.ErrNone: fields("a", "m", "Sa;"), api.ErrLong: fields("a", "m", "a65536:i")}
	for e, x := range bad {
		for _, y := range bad {
			l := []api.Struct{fields("b", "m", "c"), fields("c", "m", "Sb;"), x, y, fields("d", "m", "Sc;")}
			same(t, all(l), types.Structs(l), api.Fault{At: 2, Code: e})
		}
		l := append(make([]api.Struct, 0, 65), x)
		for i := range 63 {
			l = append(l, fields("s"+strconv.Itoa(i), "m", "i"))
		}
		same(t, "64", types.Structs(l), api.Fault{Code: e})
		same(t, "65", types.Structs(append(l, x)), api.Fault{Code: api.ErrLong})
	}
}

// 8.1, Structs: a struct is given to those behind it alone, and to all behind a pointer.
func TestStructsAhead(t *testing.T) {
	a, b := fields("a", "m", "i"), fields("b", "m", "Sa;", "n", "pSb;")
	same(t, "in order", types.Structs([]api.Struct{a, b}), api.Fault{})
	same(t, "turned about", types.Structs([]api.Struct{b, a}), api.Fault{Code: api.ErrNone})
	great := []api.Struct{fields("a", "m", "pa16385:Sb;"), fields("b", "m", "i")}
	same(t, "too great, but not yet", types.Structs(great), api.Fault{})
	same(t, "too great", types.Structs([]api.Struct{great[1], great[0]}), api.Fault{At: 1, Code: api.ErrLong})
	same(t, "it is so from outside", types.Check("pa16385:Sb;", great), api.ErrLong)
	same(t, "one more is not", types.Check("pa16384:Sb;", great), api.OK)
}

// 8.1, Structs: structs by chance.
func TestStructsByChance(t *testing.T) {
	told := map[api.Errno]int{}
	for seed := range 30000 {
		c := chance(seed*977 + 2)
		l := c.structs()
		if c.below(8) == 0 {
			l = append(l, c.structs()...)
		}
		_, want := plainStructs(l)
		told[want.Code]++
		if got := types.Structs(l); got != want {
			t.Errorf("%.900v: %v, want %v", l, got, want)
		}
	}
	for _, e := range []api.Errno{api.OK, api.ErrForm, api.ErrLong, api.ErrShape, api.ErrNone, api.ErrTwice} {
		if told[e] < 10 {
			t.Errorf("%v is told %d times", e, told[e])
		}
	}
}
