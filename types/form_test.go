package types_test

import (
	"strings"
	"testing"

	"catapult/api"
	"catapult/types"
)

// rightCodes is codes of a type's form, whether the types are right or not.
func rightCodes() []string {
	return []string{
		"v", "c", "s", "i", "u", "j", "pv", "pc", "ppi", "pppppj", "a0:i", "a1:c", "a9:s", "a10:u", "a65536:c", "a65537:c", "a1099511627775:i", "a1099511627776:i", "a0:v", "a2:a3:i", "pa2:c", "a2:pc",
		"St;", "S_;", "SS;", "Sv;", "Sint_;", "Sx9_Y;", "S" + strings.Repeat("n", 31) + ";", "pSt;", "a3:St;", "f()v", "f(i)v", "f(i,pc)i", "f(v)f()v", "f(f(f()v,i)v)pf(a2:i)j", "pf(i,pc)i", "a2:f()v", "f()a2:i",
		"f(i,i,i,i,i,i,i,i,i,i)v", "f(St;,Su;)Sv;", "f(a1:i,a2:c)a0:v", "pf(pf(pf(i)v)v)v",
	}
}

// 8.1, Form: codes that are of the form.
func TestForm(t *testing.T) {
	for _, s := range rightCodes() {
		same(t, s, all(types.Form(api.Type(s)), plainForm(s)), all(true, true))
	}
}

// 8.1, Form: codes that are not.
func TestNoForm(t *testing.T) {
	for _, s := range []string{
		"", "p", "pp", "a", "a1", "a1:", "a:", "a:i", "f", "f(", "f()", "f(i", "f(i)", "f(i,", "f(i,)", "f(i,)v", "f(,)v", "f(,i)v", "f(i,,i)v", "f(i i)v", "f(ii)v", "f i", "fv", "f(i)v)", "f((i)v", "f(i;)v", "f)v", "(i)", ")", ",", ":", ";", "1", "i,i",
		"a00:i", "a01:i", "a-1:i", "a+1:i", "a1_0:i", "a0x1:i", "a 1:i", "a1 :i", "a1: i", "a1e1:i", "a1.0:i", "aa:i", "ai", "a1i", "a1;i", "a²:i", "a1099511627777:i", "a9999999999999:i", "a18446744073709551615:i", "a18446744073709551616:i", "a18446744073709551617:i", "a36893488147419103233:i", "a" + strings.Repeat("9", 60000) + ":i", "a" + strings.Repeat("0", 60000) + ":i",
		"S", "S;", "St", "S9;", "St-;", "St.u;", "Sint;", "Sjmp_buf;", "Sstruct;", "Svoid;", "S" + strings.Repeat("n", 32) + ";", "S\xe4;", "St:", "Stt", "SSt;;", "St;;", "S  t;", "S t ;", "St ;", "S ;", "S t;", "S_ t;", "S\tt;", "S\nt;", "S\x00t;", "Sstruct t;", "pS t;", "a3:S t;", "f(S t;)v", "f(St;,S u;)v", "f()S t;", "f()pS t;",
		"V", "C", "I", "P", "A1:i", "F()v", "x", "l", "int", "void", "char", "ii", "iv", "vi", "ip", "cc", "ji", "St;i", "pii", " ", " i", "i ", "p i", "i\n", "\ni", "i\x00", "\x00", "\xff", "é", "p*", "i*", "[1]i", "a1:i]", "f()v ", "f( )v", "f(i, i)v", "f() v", "f ()v",
	} {
		same(t, s, all(types.Form(api.Type(s)), plainForm(s)), all(false, false))
	}
}

// 8.1, Form: at most MaxText bytes, however deep.
func TestLongForm(t *testing.T) {
	for _, s := range []string{"p", "a0:", "a17:", "f()", "pf(i,i)", "f(i,c,St;,v)"} {
		most := strings.Repeat(s, 65535/len(s))
		most = strings.Repeat("p", 65535-len(most)) + most + "i"
		same(t, "the most of "+s, all(len(most), types.Form(api.Type(most))), all(65536, true))
		same(t, "one more of "+s, types.Form(api.Type("p"+most)), false)
		same(t, "and no end of "+s, types.Form(api.Type(most[:65535])), false)
	}
	wide := "pf(" + strings.Repeat("i,", 32765) + "i)v"
	same(t, "wide", all(len(wide), types.Form(api.Type(wide)), types.Form(api.Type("p"+wide))), all(65536, true, false))
	within := strings.Repeat("f(", 16384)
	same(t, "functions in functions", all(types.Form(api.Type(within+"v"+strings.Repeat(")v", 16383))), types.Form(api.Type(within[2:]+"v"+strings.Repeat(")v", 16383)))), all(false, true))
	for _, s := range []string{within + within, strings.Repeat("a1:", 21845), strings.Repeat("S", 65536), strings.Repeat("a", 65536), strings.Repeat("f(i,", 16384), strings.Repeat("p", 1<<20), "S" + strings.Repeat("n", 1<<20) + ";", "a" + strings.Repeat("1", 1<<20) + ":i"} {
		same(t, s, types.Form(api.Type(s)), false)
	}
}

// 8.1, Form: all texts of at most four bytes of those that codes are made of.
func TestShortTexts(t *testing.T) {
	const bytes = "vijpa01:St; f(,)"
	right := 0
	var more func(s string)
	more = func(s string) {
		got := types.Form(api.Type(s))
		if got != plainForm(s) {
			t.Errorf("%q: %v", s, got)
		}
		if got {
			right++
		}
		if len(s) < 4 {
			for _, b := range bytes {
				more(s + string(b))
			}
		}
	}
	more("")
	if right < 100 {
		t.Errorf("%d of them are right", right)
	}
}

// 8.1, Form: one byte more, fewer, or another one.
func TestOneByteWrong(t *testing.T) {
	const bytes = "vcsiujpaSf0123456789:;,()x_A \x00\n\t-+.[]*%\x7f\x80\xff"
	for _, s := range rightCodes() {
		for i := range len(s) + 1 {
			for _, b := range []byte(bytes) {
				near := []string{s[:i] + string([]byte{b}) + s[i:]}
				if i < len(s) {
					near = append(near, s[:i]+string([]byte{b})+s[i+1:], s[:i]+s[i+1:], s[:i], s[i:])
				}
				for _, n := range near {
					if got := types.Form(api.Type(n)); got != plainForm(n) {
						t.Errorf("%q: %v", n, got)
					}
				}
			}
		}
	}
}
