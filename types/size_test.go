package types_test

import (
	"strconv"
	"strings"
	"testing"

	"catapult/api"
	"catapult/types"
)

// 8.2, Size: of each kind of object.
func TestSize(t *testing.T) {
	for s, want := range map[string][2]int{
		"c": {1, 1}, "s": {2, 2}, "i": {4, 4}, "u": {4, 4}, "j": {64, 4}, "pv": {4, 4}, "pc": {4, 4}, "pj": {4, 4}, "pa100:i": {4, 4}, "pf()v": {4, 4}, "pSnone;": {4, 4}, "pSt;": {4, 4},
		"a1:c": {1, 1}, "a3:c": {3, 1}, "a3:s": {6, 2}, "a5:i": {20, 4}, "a7:u": {28, 4}, "a2:j": {128, 4}, "a3:pc": {12, 4}, "a3:pSnone;": {12, 4}, "a2:a3:c": {6, 1}, "a2:a3:a5:s": {60, 2}, "a65536:c": {65536, 1}, "a1024:j": {65536, 4},
		"St;": {8, 4}, "a3:St;": {24, 4}, "Su;": {16, 4}, "a2:Su;": {32, 4}, "Sw;": {5, 1}, "a3:Sw;": {15, 1}, "Sx;": {6, 2}, "a2:Sx;": {12, 2}, "Sy;": {76, 4}, "Sz;": {1, 1}, "a65536:Sz;": {65536, 1},
	} {
		l := append(pair(), fields("w", "a", "c", "b", "a3:c", "d", "c"), fields("x", "a", "c", "b", "s", "d", "c"), fields("y", "a", "c", "b", "j", "d", "Sx;", "e", "c"), fields("z", "a", "c"))
		n, align, e := types.Size(api.Type(s), l)
		same(t, s, all(n, align, e), all(want[0], want[1], api.OK))
	}
}

// 8.2, Size: of what is no object, and Check's errors ahead of that.
func TestNoSize(t *testing.T) {
	for s, want := range map[string]api.Errno{
		"v": api.ErrShape, "f()v": api.ErrShape, "f(i,pc)i": api.ErrShape, "f(pSnone;)v": api.ErrShape,
		"": api.ErrForm, "vv": api.ErrForm, "S t;": api.ErrForm, "a3:S t;": api.ErrForm, "pS t;": api.ErrForm, "Snone;": api.ErrNone, "a3:Snone;": api.ErrNone, "a0:i": api.ErrShape, "f(v)v": api.ErrShape, "a16385:i": api.ErrLong, "f(pa16385:i)v": api.ErrLong, strings.Repeat("p", 48) + "v": api.ErrLong, "f()" + strings.Repeat("p", 47) + "v": api.ErrLong,
	} {
		n, align, e := types.Size(api.Type(s), pair())
		pieces, e2 := types.Scalars(api.Type(s), pair())
		same(t, s, all(n, align, e, pieces == nil, e2), all(0, 0, want, true, want))
	}
}

// 8.2, Member: where members stand, and their types; the chapter's example.
func TestMember(t *testing.T) {
	l := append(pair(), fields("w", "a", "c", "b", "s", "c", "c", "d", "pSv;", "e", "j", "f", "c", "g", "a3:c", "h", "a2:St;", "i", "pf(pSw;)v", "c2", "c", "t", "Su;"))
	for name, want := range map[string]string{
		"t first": "0 c", "t second": "4 i", "u one": "0 St;", "u two": "8 a2:s", "u next": "12 pSu;",
		"w a": "0 c", "w b": "2 s", "w c": "4 c", "w d": "8 pSv;", "w e": "12 j", "w f": "76 c", "w g": "77 a3:c", "w h": "80 a2:St;", "w i": "96 pf(pSw;)v", "w c2": "100 c", "w t": "104 Su;",
	} {
		of, member, _ := strings.Cut(name, " ")
		at, code, e := types.Member(l, of, member)
		same(t, name, strconv.Itoa(at)+" "+string(code)+" "+e.Error(), want+" error 0")
	}
	for _, name := range []string{"t one", "t t", "t ", "t First", "t first ", "none first", " first", "T first", "St; first", "t; first", "w c3", "int first", "t 1"} {
		of, member, _ := strings.Cut(name, " ")
		at, code, e := types.Member(l, of, member)
		same(t, name, all(at, code, e), all(0, "", api.ErrNone))
	}
	at, code, e := types.Member(nil, "t", "first")
	same(t, "no structs", all(at, code, e), all(0, "", api.ErrNone))
	at, code, e = types.Member(nil, "", "")
	same(t, "no name", all(at, code, e), all(0, "", api.ErrNone))
	at, code, e = types.Member([]api.Struct{fields("a", numbered(64, "a1024:c")...)}, "a", "m63")
	same(t, "the last of all", all(at, code, e), all(63*1024, "a1024:c", api.OK))
}

// 8.2, Scalars: of each kind of object; the chapter's example.
func TestScalars(t *testing.T) {
	l := append(pair(), fields("w", "a", "j", "b", "c", "c", "j"), fields("x", "a", "c", "b", "a2:Sw;", "d", "a2:a2:s"))
	for s, want := range map[string]string{
		"c": "[{0 c}]", "s": "[{0 s}]", "i": "[{0 i}]", "u": "[{0 u}]", "pv": "[{0 pv}]", "pf(i)v": "[{0 pf(i)v}]", "pSnone;": "[{0 pSnone;}]", "j": "[]", "a5:j": "[]", "a1024:j": "[]",
		"a3:c": "[{0 c} {1 c} {2 c}]", "a2:a2:s": "[{0 s} {2 s} {4 s} {6 s}]", "a2:pa2:i": "[{0 pa2:i} {4 pa2:i}]",
		"St;": "[{0 c} {4 i}]", "a2:St;": "[{0 c} {4 i} {8 c} {12 i}]", "Su;": "[{0 c} {4 i} {8 s} {10 s} {12 pSu;}]",
		"Sw;": "[{64 c}]", "a2:Sw;": "[{64 c} {196 c}]", "Sx;": "[{0 c} {68 c} {200 c} {268 s} {270 s} {272 s} {274 s}]",
	} {
		pieces, e := types.Scalars(api.Type(s), l)
		same(t, s, all(pieces, e), want+" "+e.Error())
		same(t, s, e, api.OK)
	}
}

// 8.2, Scalars: at most MaxItems of them.
func TestManyScalars(t *testing.T) {
	l := append(pair(), fields("w", "a", "j", "b", "a4096:c"), fields("x", "a", "a4096:c", "b", "j", "c", "c"), fields("y", "a", "a2048:i", "b", "a2048:c"), fields("z", "a", "a2048:i", "b", "a2049:c"))
	for s, want := range map[string]int{"a4096:c": 4096, "a4096:i": 4096, "a2048:St;": 4096, "a64:a64:pv": 4096, "Sw;": 4096, "Sy;": 4096, "a1:Sw;": 4096} {
		pieces, e := types.Scalars(api.Type(s), l)
		same(t, s, all(len(pieces), e), all(want, api.OK))
	}
	for _, s := range []string{"a4097:c", "a65536:c", "a4097:i", "a16384:i", "a2049:St;", "a64:a65:pv", "a65:a64:pv", "Sx;", "Sz;", "a2:Sw;", "a2:Sy;"} {
		pieces, e := types.Scalars(api.Type(s), l)
		same(t, s, all(pieces == nil, e, types.Check(api.Type(s), l)), all(true, api.ErrLong, api.OK))
	}
}

// P1: structs within structs, as many as there may be, in arrays within arrays.
func TestStructsInStructs(t *testing.T) {
	ones := strings.Repeat("a1:", 46)
	l := []api.Struct{fields("s0", "m", "c")}
	for i := range 63 {
		l = append(l, fields("s"+strconv.Itoa(i+1), "m", ones+"Ss"+strconv.Itoa(i)+";"))
	}
	n, align, e := types.Size("a65536:Ss63;", l)
	same(t, "size", all(n, align, e), all(65536, 1, api.OK))
	pieces, e := types.Scalars("a65536:Ss63;", l)
	same(t, "too many", all(len(pieces), e), all(0, api.ErrLong))
	pieces, e = types.Scalars("a100:Ss63;", l)
	same(t, "scalars", all(len(pieces), pieces[99], e), all(100, api.Piece{At: 99, Type: "c"}, api.OK))
	double := []api.Struct{fields("s0", "m", "c", "n", "c")}
	for i := range 16 {
		s := "Ss" + strconv.Itoa(i) + ";"
		double = append(double, fields("s"+strconv.Itoa(i+1), "m", s, "n", s))
	}
	same(t, "twice as much each time", types.Structs(double), api.Fault{At: 16, Code: api.ErrLong})
	n, align, e = types.Size("Ss15;", double[:16])
	same(t, "the greatest", all(n, align, e), all(65536, 1, api.OK))
}

// 8.2: sizes, members and scalars by chance.
func TestSizesByChance(t *testing.T) {
	sized := 0
	for seed := range 12000 {
		c := chance(seed*1213 + 3)
		l := c.structs()
		given, f := plainStructs(l)
		if f.Code != api.OK {
			continue
		}
		for _, x := range l {
			for i, m := range x.Members {
				at, code, e := types.Member(l, x.Name, m.Name)
				same(t, all(l), all(at, code, e), all(given[x.Name].at[i], m.Type, api.OK))
			}
			n, align, e := types.Size(api.Type("S"+x.Name+";"), l)
			same(t, all(l), all(n, align, e), all(int(given[x.Name].bytes), int(given[x.Name].align), api.OK))
		}
		s := of(&c, c.any(3), c.object(4))
		n, align, e := types.Size(api.Type(s), l)
		pieces, e2 := types.Scalars(api.Type(s), l)
		want := plainCheck(s, given)
		if want == api.OK && isOne(s, "vf") {
			want = api.ErrShape
		}
		if want != api.OK {
			same(t, s, all(n, align, e, pieces == nil, e2), all(0, 0, want, true, want))
			continue
		}
		sized++
		wantBytes, wantAlign := plainSize(s, given)
		same(t, s, all(n, align, e), all(int(wantBytes), int(wantAlign), api.OK))
		if l := plainScalars(s, 0, given); len(l) > 4096 {
			same(t, s, all(len(pieces), e2), all(0, api.ErrLong))
		} else {
			same(t, s, all(pieces, e2), all(l, api.OK))
		}
	}
	if sized < 4000 {
		t.Errorf("%d types have sizes", sized)
	}
}
