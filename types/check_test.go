package types_test

import (
	"strconv"
	"strings"
	"testing"

	"catapult/api"
	"catapult/types"
)

// pair is the structs of most examples: t of a char and an int, and u, which holds t.
func pair() []api.Struct {
	return []api.Struct{fields("t", "first", "c", "second", "i"), fields("u", "one", "St;", "two", "a2:s", "next", "pSu;")}
}

// 8.2, Check: types that are right.
func TestRight(t *testing.T) {
	for _, s := range []string{
		"v", "c", "s", "i", "u", "j", "pv", "pc", "pj", "ppppv", "a1:c", "a65536:c", "a32768:s", "a16384:i", "a16384:u", "a16384:pv", "a1024:j", "a256:a256:c", "a1:a1:a1:j", "pa1:i", "pf()v", "f()v", "f()i", "f(c)c", "f(s,u,pv)pc", "f(i,i,i,i,i,i,i,i)v", "f(pf(pj)v)pa3:j",
		"St;", "pSt;", "a5:Su;", "f(pSt;)pSu;", "pSnone;", "ppSnone;", "pa65536:Snone;", "pa5:a65536:Snone;", "pf(pSnone;)pSnone;", "a3:pSnone;", "f(pSnone;)v", "a8192:St;", "a4096:Su;", "pa8192:St;", "a16384:pSt;", "a16384:pSnone;",
	} {
		same(t, s, types.Check(api.Type(s), pair()), api.OK)
	}
}

// 8.2, Check: types that are not right, each for one thing.
func TestWrong(t *testing.T) {
	for code, l := range map[api.Errno][]string{
		api.ErrForm: {"", "x", "p", "St", "S;", "a1099511627777:i", "ii", " i", "f(i,)v", "S t;", "S none;", "pS t;", "a3:S t;", "a0:S t;", "f(pS t;)v", "f()pS t;", strings.Repeat("p", 65536) + "i"},
		api.ErrLong: {
			strings.Repeat("p", 48) + "i", strings.Repeat("a1:", 48) + "i", strings.Repeat("f()", 48) + "v", strings.Repeat("p", 65535) + "i", "f(" + strings.Repeat("p", 47) + "i)v", "f(i,i," + strings.Repeat("p", 47) + "i,i)v", "f()" + strings.Repeat("p", 47) + "v", strings.Repeat("p", 48) + "St;",
			"a32769:s", "a16385:i", "a16385:u", "a16385:pv", "a1025:j", "a65536:s", "a65536:a65536:c", "a257:a256:c", "a256:a257:c", strings.Repeat("a65536:", 47) + "c", "pa16385:i", "ppa1025:j", "f(pa16385:i)v", "f()pa16385:i", "pf(i,pa16385:u)v", "a2:pa16385:i", "a1:a16385:i",
			"a8193:St;", "a4097:Su;", "pa8193:St;", "f(pa4097:Su;)v", "a16385:pSt;", "a16385:pSnone;", "pa2:a16385:pSnone;", "a65536:pf()v",
		},
		api.ErrShape: {
			"a0:i", "a65537:c", "a65537:pv", "a1099511627776:c", "a1:v", "a1:f()v", "a1:f(i)i", "a0:v", "pa0:i", "pa65537:Snone;", "pa1:v", "a1:a0:i", "a0:a1:i", "a65537:a65537:c", "ppa1:f()v",
			"f(v)v", "f(j)v", "f(a2:i)v", "f(St;)v", "f(f()v)v", "f(i,v)v", "f(i,i,i,i,i,i,i,j)v", "f(i,i,i,i,i,i,i,i,i)v", "f(i,i,i,i,i,i,i,i,i)j", "f()j", "f()a2:i", "f()St;", "f()f()v", "f()Snone;", "f(Snone;)v", "pf()j", "pf(v)v", "f(pf(v)v)v", "f()pf()a2:i", "f(pa0:i)v", "a1:pf(v)v",
		},
		api.ErrNone: {"Snone;", "a1:Snone;", "a2:a3:Snone;", "a65536:Snone;", "ST;", "St_;", "Stt;"},
	} {
		for _, s := range l {
			same(t, s, types.Check(api.Type(s), pair()), code)
		}
	}
}

// 8.2, Check: a type of the greatest depth is right, however it is made.
func TestDeepest(t *testing.T) {
	for _, s := range []string{"p", "a1:", "f()p", "pf()", "f(i,i)p", "pa1:", "a1:p"} {
		code := "i"
		for plainDepth(code) < 51 {
			code = s + code
			same(t, code, types.Check(api.Type(code), nil), plainCheck(code, nil))
			same(t, "p"+code, types.Check(api.Type("p"+code), nil), plainCheck("p"+code, nil))
		}
	}
	for _, s := range []string{strings.Repeat("p", 47) + "v", strings.Repeat("a1:", 47) + "i", strings.Repeat("a1:", 47) + "St;", "f(" + strings.Repeat("p", 46) + "v)v", "f(i," + strings.Repeat("p", 46) + "c,i)" + strings.Repeat("p", 46) + "v", strings.Repeat("p", 47) + "Snone;", strings.Repeat("pf()", 23) + "pv", strings.Repeat("a1:", 46) + "pSt;"} {
		same(t, s, all(plainDepth(s), types.Check(api.Type(s), pair())), all(48, api.OK))
		same(t, "p"+s, types.Check(api.Type("p"+s), pair()), api.ErrLong)
	}
}

// 8.2, Check: of several things that are wrong the first one in the chapter's order.
func TestFirstThingWrong(t *testing.T) {
	deep := strings.Repeat("p", 48)
	for s, want := range map[string]api.Errno{
		"ia0:i": api.ErrForm, "f(a0:i,)v": api.ErrForm, deep + "x": api.ErrForm, "a65536:a65536:x": api.ErrForm, "a3:St": api.ErrForm, "a0:Snone": api.ErrForm, deep + "Snone": api.ErrForm,
		deep + "a0:i": api.ErrLong, "f(v," + deep + "i)v": api.ErrLong, "a0:" + deep + "i": api.ErrLong, deep + "Snone;": api.ErrLong, "a65536:a65536:" + deep + "i": api.ErrLong, "a0:" + strings.Repeat("a1:", 47) + "Snone;": api.ErrLong,
		"a0:Snone;": api.ErrShape, "a65537:Snone;": api.ErrShape, "a0:a65536:a65536:i": api.ErrShape, "a16385:pa0:i": api.ErrShape, "f(pa16385:i,v)v": api.ErrShape, "f(pa16385:i)Snone;": api.ErrShape, "f(Snone;)v": api.ErrShape, "pf(pa16385:i,a0:i)v": api.ErrShape, "a1:pf(Snone;)v": api.ErrShape,
		"a65536:a65536:Snone;": api.ErrNone, "a65536:Snone;": api.ErrNone, "a16384:a2:Snone;": api.ErrNone,
		"pa65536:a65536:Snone;": api.OK, "pa65536:a65536:St;": api.ErrLong, "f(pa65536:Snone;,pa65536:i)v": api.ErrLong, "pa65536:a65536:pSnone;": api.ErrLong,
	} {
		same(t, s, types.Check(api.Type(s), pair()), want)
		same(t, "structs that are wrong, and "+s, types.Check(api.Type(s), []api.Struct{fields("t", "a", "i"), fields("t", "a", "i")}), api.ErrTwice)
	}
}

// 8.1, 8.2: the codes of structs, wherever structs are handed in.
func TestStructsFirst(t *testing.T) {
	for want, s := range map[api.Errno]api.Struct{api.ErrForm: fields("1"), api.ErrTwice: fields("a", "m", "i", "m", "i"), api.ErrShape: fields("a"), api.ErrNone: fields("a", "m", "Sa;"), api.ErrLong: fields("a", "m", "a65536:i")} {
		for _, code := range []api.Type{"i", "v", "f()v", "x", "Sa;", "Snone;", "a0:i", "a65536:i"} {
			l := []api.Struct{fields("t", "m", "i"), s}
			a, b, e := types.Size(code, l)
			at, member, e2 := types.Member(l, "t", "m")
			pieces, e3 := types.Scalars(code, l)
			same(t, string(code), all(types.Check(code, l), types.Structs(l), a, b, e, at, member, e2, len(pieces), e3), all(want, api.Fault{At: 1, Code: want}, 0, 0, want, 0, "", want, 0, want))
		}
	}
	many := make([]api.Struct, 65)
	for i := range many {
		many[i] = fields("s"+strconv.Itoa(i), "m", "i")
	}
	same(t, "too many", all(types.Structs(many), types.Check("x", many), types.Check("Ss0;", many)), all(api.Fault{Code: api.ErrLong}, api.ErrLong, api.ErrLong))
}

// 8.2: types by chance, with structs by chance.
func TestCheckByChance(t *testing.T) {
	told := map[api.Errno]int{}
	for seed := range 30000 {
		c := chance(seed*769 + 1)
		l := c.structs()
		s := of(&c, c.any(3), c.object(4), c.odd(2), c.odd(3))
		want := api.Errno(0)
		given, f := plainStructs(l)
		if want = f.Code; want == api.OK {
			want = plainCheck(s, given)
		}
		told[want]++
		if got := types.Check(api.Type(s), l); got != want {
			t.Errorf("%.300q with %.900v: %v, want %v", s, l, got, want)
		}
	}
	for _, e := range []api.Errno{api.OK, api.ErrForm, api.ErrLong, api.ErrShape, api.ErrNone, api.ErrTwice} {
		if told[e] < 50 {
			t.Errorf("%v is told %d times", e, told[e])
		}
	}
}
