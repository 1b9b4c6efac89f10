package types_test

import (
	"strconv"
	"strings"
	"testing"

	"catapult/api"
	"catapult/types"
)

// elem is what Elem answers, in a row.
func elem(s string) string {
	to, n, e := types.Elem(api.Type(s))
	return string(to) + " " + strconv.Itoa(n) + " " + strconv.Itoa(int(e))
}

// sign is what Sign answers, in a row.
func sign(s string) string {
	answer, params, e := types.Sign(api.Type(s))
	l := []string{string(answer)}
	for _, p := range params {
		l = append(l, string(p))
	}
	return strings.Join(l, " ") + " " + strconv.Itoa(int(e))
}

// one is what a call of one type answers, in a row.
func one(call func(api.Type) (api.Type, api.Errno), s string) string {
	to, e := call(api.Type(s))
	return string(to) + " " + strconv.Itoa(int(e))
}

// common is what Common answers, in a row.
func common(a, b string) string {
	to, e := types.Common(api.Type(a), api.Type(b))
	return string(to) + " " + strconv.Itoa(int(e))
}

// 8.3, Elem: of pointers and arrays, right or not.
func TestElem(t *testing.T) {
	for s, want := range map[string]string{
		"pv": "v 0 0", "pi": "i 0 0", "ppi": "pi 0 0", "pa3:i": "a3:i 0 0", "pf(i,pc)i": "f(i,pc)i 0 0", "pSt;": "St; 0 0", "pj": "j 0 0", "pa0:v": "a0:v 0 0",
		"a1:c": "c 1 0", "a3:pi": "pi 3 0", "a2:a3:i": "a3:i 2 0", "a65537:St;": "St; 65537 0", "a0:i": "i 0 0", "a2:v": "v 2 0", "a4:f()v": "f()v 4 0", "a1099511627776:i": "i 1099511627776 0", "a10:j": "j 10 0",
		"v": " 0 5", "c": " 0 5", "s": " 0 5", "i": " 0 5", "u": " 0 5", "j": " 0 5", "St;": " 0 5", "f()v": " 0 5", "f(pi)pi": " 0 5",
		"": " 0 2", "p": " 0 2", "a3:": " 0 2", "pii": " 0 2", "a01:i": " 0 2", "px": " 0 2", "int": " 0 2", "pS t;": " 0 2", "a7:S t;": " 0 2", "pf(S t;)v": " 0 2", "S t;": " 0 2",
	} {
		same(t, s, elem(s), want)
	}
}

// 8.3, Sign: of functions, right or not.
func TestSign(t *testing.T) {
	for s, want := range map[string]string{
		"f()v": "v 0", "f()i": "i 0", "f(i)v": "v i 0", "f(i,pc)i": "i i pc 0", "f(c,s,i,u,j,v)pv": "pv c s i u j v 0", "f(f(i,i)v,a2:i)f(c)s": "f(c)s f(i,i)v a2:i 0", "f(St;,pf(St;)v)Su;": "Su; St; pf(St;)v 0", "f(i,i,i,i,i,i,i,i,i)v": "v i i i i i i i i i 0", "f()f()f(i)v": "f()f(i)v 0",
		"v": " 5", "i": " 5", "j": " 5", "pf()v": " 5", "a1:f()v": " 5", "St;": " 5",
		"": " 2", "f": " 2", "f()": " 2", "f(i,)v": " 2", "f(i)vv": " 2", "f(x)v": " 2", "int": " 2", "f(S t;)v": " 2", "f()pS t;": " 2",
	} {
		same(t, s, sign(s), want)
	}
	wide := "f(" + strings.Repeat("pi,", 20000) + "c)v"
	_, params, e := types.Sign(api.Type(wide))
	same(t, "wide", all(len(params), params[19999], params[20000], e), all(20001, "pi", "c", api.OK))
}

// 8.3, Func: of any number of types, right or not.
func TestFunc(t *testing.T) {
	for want, l := range map[string][]api.Type{
		"f()v 0": {"v"}, "f()i 0": {"i"}, "f(i)v 0": {"v", "i"}, "f(i,pc)i 0": {"i", "i", "pc"}, "f(a2:i)i 0": {"i", "a2:i"}, "f(f()v,St;)f(i)v 0": {"f(i)v", "f()v", "St;"}, "f(v,j,a0:i)St; 0": {"St;", "v", "j", "a0:i"}, "f(i,c,i,c,i,c,i,c)u 0": {"u", "i", "c", "i", "c", "i", "c", "i", "c"},
	} {
		f, e := types.Func(l[0], l[1:]...)
		same(t, want, string(f)+" "+strconv.Itoa(int(e)), want)
	}
	nine := []api.Type{"i", "i", "i", "i", "i", "i", "i", "i", "i"}
	for _, x := range []struct {
		result api.Type
		params []api.Type
		want   api.Errno
	}{
		{"", nil, api.ErrForm}, {"S t;", nil, api.ErrForm}, {"v", []api.Type{"pS t;"}, api.ErrForm}, {"x", nine, api.ErrForm}, {"i", []api.Type{""}, api.ErrForm}, {"i", []api.Type{"i", "i,i"}, api.ErrForm}, {"i)", nil, api.ErrForm}, {"v", append(nine[:8:8], "x"), api.ErrForm}, {"v", append(nine[:9:9], "x"), api.ErrForm},
		{"v", nine, api.ErrLong}, {"v", append(nine, nine...), api.ErrLong},
	} {
		f, e := types.Func(x.result, x.params...)
		same(t, all(x), all(f, e), all("", x.want))
	}
}

// 8.3, Func: of at most MaxText bytes.
func TestLongFunc(t *testing.T) {
	p := func(n int) api.Type { return api.Type(strings.Repeat("p", n-1) + "i") }
	for _, l := range [][]api.Type{{p(65533)}, {"v", p(65532)}, {p(65532), "v"}, {"v", p(32768), p(32763)}, {"i", p(65000), "pi", p(526), "c"}} {
		f, e := types.Func(l[0], l[1:]...)
		same(t, "the most", all(len(f), e, types.Form(f)), all(65536, api.OK, true))
		l[0] = "p" + l[0]
		f, e = types.Func(l[0], l[1:]...)
		same(t, "one more", all(f, e), all("", api.ErrLong))
		f, e = types.Func(l[0], append(l[1:], "x")...)
		same(t, "no type", all(f, e), all("", api.ErrForm))
	}
	f, e := types.Func(p(65536))
	same(t, "too long a result", all(f, e), all("", api.ErrLong))
	f, e = types.Func(p(65537))
	same(t, "no form", all(f, e), all("", api.ErrForm))
	f, e = types.Func("v", p(65537))
	same(t, "no form of a parameter", all(f, e), all("", api.ErrForm))
}

// 8.3, Decay: of arrays, functions and j; all others stay.
func TestDecay(t *testing.T) {
	for s, want := range map[string]string{
		"a3:i": "pi 0", "a2:a3:c": "pa3:c 0", "a1:pi": "ppi 0", "a1:St;": "pSt; 0", "a0:v": "pv 0", "a9:f()v": "pf()v 0", "a1:j": "pj 0", "f()v": "pf()v 0", "f(i,pc)i": "pf(i,pc)i 0", "f(v)f()j": "pf(v)f()j 0", "j": "pj 0",
		"v": "v 0", "c": "c 0", "s": "s 0", "i": "i 0", "u": "u 0", "St;": "St; 0", "pi": "pi 0", "pj": "pj 0", "pa3:i": "pa3:i 0", "pf()v": "pf()v 0", "pv": "pv 0",
		"": " 2", "a3:": " 2", "f()": " 2", "jj": " 2", "x": " 2", "S t;": " 2", "a1:S t;": " 2", "f(S t;)v": " 2",
	} {
		same(t, s, one(types.Decay, s), want)
	}
	most := "f()" + strings.Repeat("p", 65532) + "v"
	same(t, "too long", one(types.Decay, most), " 3")
	same(t, "no form", one(types.Decay, "f()p"+most[3:]), " 2")
	same(t, "the most", one(types.Decay, most[:3]+most[4:]), "p"+most[:3]+most[4:]+" 0")
	array := "a1:" + strings.Repeat("p", 65532) + "v"
	same(t, "a long array", one(types.Decay, array), "p"+array[3:]+" 0")
	same(t, "a long pointer", one(types.Decay, "ppp"+array[3:]), "ppp"+array[3:]+" 0")
}

// 8.3, Promote: of c and s; all others stay.
func TestPromote(t *testing.T) {
	for s, want := range map[string]string{
		"c": "i 0", "s": "i 0", "i": "i 0", "u": "u 0", "v": "v 0", "j": "j 0", "pc": "pc 0", "a3:s": "a3:s 0", "St;": "St; 0", "f(c)s": "f(c)s 0", "a0:c": "a0:c 0",
		"": " 2", "cc": " 2", "p": " 2", "x": " 2", "char": " 2", "S c;": " 2", "pS c;": " 2",
	} {
		same(t, s, one(types.Promote, s), want)
	}
}

// 8.3, Common: of each two types of a row.
func TestCommon(t *testing.T) {
	ints := "csiu"
	l := []string{"c", "s", "i", "u", "v", "j", "pi", "pu", "a1:i", "St;", "S t;", "f()u", "", "x", "uu", "p", "a:i"}
	for _, a := range l {
		for _, b := range l {
			want := "i 0"
			switch {
			case !plainForm(a) || !plainForm(b):
				want = " 2"
			case len(a) > 1 || len(b) > 1 || !strings.Contains(ints, a) || !strings.Contains(ints, b):
				want = " 5"
			case a == "u" || b == "u":
				want = "u 0"
			}
			same(t, a+" and "+b, common(a, b), want)
		}
	}
}

// 8.3, IsInt, IsScalar: of each kind of type, and of what is none.
func TestIsInt(t *testing.T) {
	for s, want := range map[string]string{
		"c": "int scalar", "s": "int scalar", "i": "int scalar", "u": "int scalar",
		"pv": "scalar", "pc": "scalar", "ppj": "scalar", "pf()v": "scalar", "pa0:v": "scalar", "pSnone;": "scalar", strings.Repeat("p", 60) + "i": "scalar",
		"v": "", "j": "", "a1:i": "", "a1:pv": "", "St;": "", "Si;": "", "f()i": "", "f(i)pv": "",
		"": "", "p": "", "px": "", "cc": "", "ci": "", "x": "", "I": "", "int": "", "pii": "", "i ": "", "pS t;": "", strings.Repeat("p", 65536) + "i": "",
	} {
		got := ""
		if types.IsInt(api.Type(s)) {
			got += "int "
		}
		if types.IsScalar(api.Type(s)) {
			got += "scalar"
		}
		same(t, s, got, want)
	}
}
