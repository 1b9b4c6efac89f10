package check_test

import (
	"regexp"
	"slices"
	"strconv"
	"strings"
	"testing"

	"catapult/api"
	"catapult/check"
)

// kindOf is the kind of core nodes of a name; one that there is none of another name.
func kindOf(name string) int {
	for kind := api.KInt; kind <= api.SNone; kind++ {
		if kind != 39 && kindName(kind) == name {
			return kind
		}
	}
	return 99
}

// labelForm is how the tests write a node: its kind's name, its number, its text, its type.
var labelForm = regexp.MustCompile(`^([A-Za-z]+)(-?\d+)?(?:-(\w+))?(?::(.*))?$`)

// read is a core tree as it is written: [ ] around a node and its parts.
func read(t *testing.T, s string) api.Tree {
	t.Helper()
	var to api.Tree
	var open []int // places of labels, and how many parts each has
	var labels []api.Node
	leaf := func(word string) api.Node {
		m := labelForm.FindStringSubmatch(word)
		if m == nil {
			t.Fatalf("no label: %s of %s", word, s)
		}
		number, _ := strconv.Atoi(m[2])
		return api.Node{Kind: kindOf(m[1]), Int: number, Text: m[3], Type: api.Type(m[4])}
	}
	done := func() {
		if len(open) > 0 {
			open[len(open)-1]++
		}
	}
	for word := range strings.FieldsSeq(strings.NewReplacer("[", " [ ", "]", " ] ").Replace(s)) {
		switch word {
		case "[":
			open = append(open, -1)
		case "]":
			n := labels[len(labels)-1]
			n.N = open[len(open)-1]
			open, labels = open[:len(open)-1], labels[:len(labels)-1]
			to = append(to, n)
			done()
		default:
			if len(open) > 0 && open[len(open)-1] < 0 {
				open[len(open)-1] = 0
				labels = append(labels, leaf(word))
				continue
			}
			to = append(to, leaf(word))
			done()
		}
	}
	return to
}

// program is a core program with a function of a body, and slots, structs, globals and strings to be named.
func program(t *testing.T, answer api.Type, body string) api.Core {
	t.Helper()
	empty := read(t, "[Block]")
	return api.Core{
		Structs: []api.Struct{{Name: "t", Members: []api.Member{{Name: "c", Type: "c"}, {Name: "i", Type: "i"}, {Name: "a", Type: "a3:c"}}}, {Name: "w", Members: []api.Member{{Name: "t", Type: "St;"}, {Name: "j", Type: "j"}}}},
		Globals: []api.CoreVar{{Name: "x", Type: "i"}, {Name: "y", Type: "a3:pi"}, {Name: "z", Type: "pf(i)i"}},
		Strings: []string{"ab", ""},
		Funcs: []api.CoreFunc{
			{Name: "main", Type: "f()i", Body: empty},
			{Name: "f", Type: "f(i,pc)" + answer, Slots: []api.Slot{
				{Name: "i", Type: "i", Param: true}, {Name: "q", Type: "pc", Param: true, Volatile: true}, {Name: "c", Type: "c"}, {Name: "u", Type: "u"}, {Name: "p", Type: "pi"}, {Name: "t", Type: "St;"}, {Name: "j", Type: "j"}, {Name: "a", Type: "a3:i"}, {Name: "", Type: "pv", Volatile: true}, {Name: "n", Type: "pSn;"},
			}, Body: read(t, body)},
			{Name: "g", Type: "f(i)i", Slots: []api.Slot{{Name: "i", Type: "i", Param: true}}, Body: empty}, {Name: "h", Type: "f()v", Body: empty},
		},
	}
}

// values holds what Check tells of values, a line each, against what must be.
func values(t *testing.T, right bool, table string) {
	t.Helper()
	for l := range strings.Lines(table) {
		if s := strings.TrimSpace(l); s != "" {
			bodies(t, right, "[Block [Expr "+s+"]]")
		}
	}
}

// bodies holds what Check tells of bodies of a function that answers i, a line each, against what must be.
func bodies(t *testing.T, right bool, table string) {
	t.Helper()
	want := api.Fault{}
	if !right {
		want = api.Fault{At: 1, Code: api.ErrTree}
	}
	for l := range strings.Lines(table) {
		if s := strings.TrimSpace(l); s != "" {
			same(t, s, check.Check(program(t, "i", s)), want)
		}
	}
}

// 13.3: values without parts.
func TestRightLeaves(t *testing.T) {
	values(t, true, `
		int0:i
		int-2147483648:i
		int2147483647:i
		int0:u
		int4294967295:u
		int-128:c
		int127:c
		int-32768:s
		int32767:s
		null:pi
		null:pv
		null:pf(i)i
		null:pSn;
		null:pSt;
		func-f:pf(i,pc)i
		func-main:pf()i
		func-h:pf()v
		local0:pi
		local1:ppc
		local5:pSt;
		local7:pa3:i
		local9:ppSn;
		global-x:pi
		global-y:pa3:pi
		global-z:ppf(i)i
		string0:pa3:c
		string1:pa1:c
	`)
	values(t, false, `
		int2147483648:i
		int-2147483649:i
		int4294967296:i
		int-1:u
		int4294967296:u
		int128:c
		int-129:c
		int32768:s
		int0
		int0:v
		int0:pi
		int0:j
		int0:x
		int0-a:i
		[int0:i int0:i]
		null
		null:i
		null:v
		null:p
		null:px
		null:pa0:i
		null:pa65537:c
		null:pa65536:i
		null:pf(v)i
		null:pi-
		null1:pi
		null-a:pi
		null:f(i)i
		null:St;
		[null:pi int0:i]
		func-f:pf(i)i
		func-f:f(i,pc)i
		func-f
		func:pf()i
		func-k:pf()i
		func-x:pi
		func-getchar:pf()i
		func1-main:pf()i
		[func-main:pf()i int0:i]
		local0:i
		local0:pu
		local-1:pi
		local10:pi
		local0-i:pi
		[local0:pi int0:i]
		global-x:i
		global-x:pu
		global-main:pf()i
		global-none:pi
		global:pi
		global1-x:pi
		[global-x:pi int0:i]
		string0:pc
		string0:pa2:c
		string0:pa3:i
		string2:pa3:c
		string-1:pa3:c
		string0-ab:pa3:c
		[string0:pa3:c int0:i]
		none:i
		none
	`)
}

// 13.3: values that reach memory.
func TestRightMemory(t *testing.T) {
	values(t, true, `
		[load:i local0:pi]
		[load:pc local1:ppc]
		[load:c [load:pc local1:ppc]]
		[load:pSn; local9:ppSn;]
		[load:pf(i)i global-z:ppf(i)i]
		[store:i local0:pi int5:i]
		[store:pc local1:ppc null:pc]
		[store:c local2:pc int5:c]
		[copy:pSt; local5:pSt; local5:pSt;]
		[copy:pSt; local5:pSt; null:pSt;]
		[copy:pSn; [load:pSn; local9:ppSn;] [load:pSn; local9:ppSn;]]
		[field0:pi local7:pa3:i]
		[field0:pc string0:pa3:c]
		[field0:pc local5:pSt;]
		[field4:pi local5:pSt;]
		[field8:pa3:c local5:pSt;]
		[field0:pc [field8:pa3:c local5:pSt;]]
		[field0:pSt; null:pSw;]
		[field12:pj null:pSw;]
		[incr1-pre:i local0:pi]
		[incr-1-post:c local2:pc]
		[incr4-post:pi local4:ppi]
		[incr-4-pre:pi local4:ppi]
		[incr1-pre:pc local1:ppc]
		[incr12-pre:pSt; null:ppSt;]
		[update14-i:i local0:pi int5:i]
		[update14-i:c local2:pc int5:i]
		[update14-u:c local2:pc int5:u]
		[update14-u:i local0:pi int5:u]
		[update15-u:u local3:pu int5:u]
		[update16-i:i local0:pi int5:i]
		[update17-i:i local0:pi int5:i]
		[update18-i:i local0:pi int5:i]
		[update19-i:i local0:pi int5:i]
		[update20-i:i local0:pi int5:i]
		[update21-i:i local0:pi int5:i]
		[update22-i:c local2:pc int5:i]
		[update23-u:u local3:pu int5:i]
		[update28-4:pi local4:ppi int5:i]
		[update28-1:pc local1:ppc int5:i]
		[update28-64:pj null:ppj int5:i]
	`)
	values(t, false, `
		[load:u local0:pi]
		[load:i local0:pi local0:pi]
		load:i
		[load:i int0:i]
		[load:St; local5:pSt;]
		[load:a3:i local7:pa3:i]
		[load:j local6:pj]
		[load:v null:pv]
		[load:f()v func-h:pf()v]
		[load1:i local0:pi]
		[load-i:i local0:pi]
		[load local0:pi]
		[store:i local0:pi int5:u]
		[store:u local0:pi int5:u]
		[store:u local0:pi int5:i]
		[store:i int5:i int5:i]
		[store:i local0:pi]
		[store:i local0:pi int5:i int5:i]
		[store:St; local5:pSt; local5:pSt;]
		[store:pSt; local5:pSt; local5:pSt;]
		[store:a3:i local7:pa3:i local7:pa3:i]
		[store4:i local0:pi int5:i]
		[store:v null:pv [call:v func-h:pf()v]]
		[copy:St; local5:pSt; local5:pSt;]
		[copy:pSt; local5:pSt; null:pSw;]
		[copy:pi local0:pi local0:pi]
		[copy:pa3:i local7:pa3:i local7:pa3:i]
		[copy:pj local6:pj local6:pj]
		[copy:pSt; local5:pSt;]
		[copy12:pSt; local5:pSt; local5:pSt;]
		[field4:pi local7:pa3:i]
		[field0:pc local7:pa3:i]
		[field0:pa3:i local7:pa3:i]
		[field0:pi local5:pSt;]
		[field4:pc local5:pSt;]
		[field1:pc local5:pSt;]
		[field0:pc null:pSn;]
		[field0:c local5:pSt;]
		[field0:pi local0:pi]
		[field0:pi local4:ppi]
		[field0:pj local6:pj]
		[field0-c:pc local5:pSt;]
		[field0:pi local7:pa3:i int0:i]
		[incr2-pre:i local0:pi]
		[incr0-pre:i local0:pi]
		[incr1-pre:u local0:pi]
		[incr1:i local0:pi]
		[incr1-before:i local0:pi]
		[incr1-pre:pi local4:ppi]
		[incr8-pre:pi local4:ppi]
		[incr0-pre:pi local4:ppi]
		[incr0-pre:pSn; local9:ppSn;]
		[incr0-pre:pv local8:ppv]
		[incr1-pre:pv local8:ppv]
		[incr0-pre:pf(i)i global-z:ppf(i)i]
		[incr1-pre:St; local5:pSt;]
		[incr1-pre:i int0:i]
		[update14-u:u local3:pu int5:i]
		[update14-i:u local3:pu int5:i]
		[update14-i:u local3:pu int5:u]
		[update14-i:c local2:pc int5:c]
		[update14-c:c local2:pc int5:c]
		[update14-i:i local0:pi int5:u]
		[update14-i:u local0:pi int5:i]
		[update14:i local0:pi int5:i]
		[update0-i:i local0:pi int5:i]
		[update13-i:i local0:pi int5:i]
		[update24-i:i local0:pi int5:i]
		[update28-i:i local0:pi int5:i]
		[update28-4:i local0:pi int5:i]
		[update22-u:i local0:pi int5:i]
		[update22-u:u local3:pu int5:u]
		[update22-i:u local3:pu int5:i]
		[update22-i:i local0:pi int5:u]
		[update22-j:j local6:pj int5:i]
		[update14-i:pi local4:ppi int5:i]
		[update14-4:pi local4:ppi int5:i]
		[update28-1:pi local4:ppi int5:i]
		[update28-04:pi local4:ppi int5:i]
		[update28:pi local4:ppi int5:i]
		[update28-4:pi local4:ppi int5:u]
		[update28-4:pc local4:ppi int5:i]
		[update22-4:pi local4:ppi int5:i]
		[update28-0:pSn; local9:ppSn; int5:i]
		[update28-0:pv local8:ppv int5:i]
		[update14-i:i local0:pi]
		[update14-i:St; local5:pSt; int5:i]
	`)
}

// 13.3: values that reckon.
func TestRightOperations(t *testing.T) {
	values(t, true, `
		[conv:i int5:c]
		[conv:i int5:i]
		[conv:c int5:u]
		[conv:pi null:pv]
		[conv:pi null:pc]
		[conv:pv local5:pSt;]
		[conv:pSn; local0:pi]
		[conv:pf()v null:pf(i)i]
		[conv:v int5:i]
		[conv:v null:pi]
		[conv:v local5:pSt;]
		[conv:v func-h:pf()v]
		[conv:v [call:v func-h:pf()v]]
		[neg:i int5:i]
		[neg:u int5:u]
		[compl:i int5:i]
		[compl:u int5:u]
		[not:i int5:c]
		[not:i int5:u]
		[not:i null:pf(i)i]
		[not:i local5:pSt;]
		[shl:i int1:i int1:i]
		[shr:u int1:u int1:i]
		[lt:i int1:i int1:i]
		[le:i int1:u int1:u]
		[lt:i null:pi null:pi]
		[le:i null:pSt; null:pSt;]
		[le:i local6:pj local6:pj]
		[eq:i int1:i int1:i]
		[ne:i int1:u int1:u]
		[eq:i null:pi null:pi]
		[ne:i null:pv null:pv]
		[eq:i null:pSn; null:pSn;]
		[eq:i func-h:pf()v null:pf()v]
		[plus4:pi null:pi int1:i]
		[plus1:pc null:pc int1:i]
		[plus12:pa3:i local7:pa3:i int1:i]
		[plus12:pSt; null:pSt; int1:i]
		[plus64:pj local6:pj int1:i]
		[minus4:i null:pi null:pi]
		[minus12:i null:pSt; null:pSt;]
		[both:i int1:c null:pi]
		[one:i null:pv int1:u]
		[cond:i int1:c int1:i int2:i]
		[cond:c int1:i int1:c int2:c]
		[cond:pi null:pi null:pi null:pi]
		[cond:pSt; int1:i local5:pSt; null:pSt;]
		[cond:v int1:i [call:v func-h:pf()v] [conv:v int1:i]]
		[comma:i int1:c int1:i]
		[comma:v int1:c [call:v func-h:pf()v]]
		[comma:c [call:v func-h:pf()v] int1:c]
		[comma:pSt; local5:pSt; local5:pSt;]
		[call:i func-main:pf()i]
		[call:i func-g:pf(i)i int1:i]
		[call:i [load:pf(i)i global-z:ppf(i)i] int1:i]
		[call:i func-f:pf(i,pc)i int1:i null:pc]
		[call:v func-h:pf()v]
		[call:i null:pf()i]
		built-getchar:i
		[built-putchar:i int1:i]
		[built-exit:v int1:i]
		[built-setjmp:i local6:pj]
		[built-longjmp:v local6:pj int1:i]
		[built-co_new:i func-g:pf(i)i int1:i int2:i]
		[built-co_resume:i int1:i int2:i]
		[built-co_yield:i int1:i]
		[built-co_done:i int1:i]
		[built-co_free:v int1:i]
	`)
	for _, kind := range []string{"add", "sub", "mul", "div", "rem", "and", "or", "xor"} {
		values(t, true, strings.ReplaceAll(`
			[#:i int1:i int2:i]
			[#:u int1:u int2:u]
		`, "#", kind))
		values(t, false, strings.ReplaceAll(`
			[#:i int1:i int2:u]
			[#:u int1:u int2:i]
			[#:u int1:i int2:i]
			[#:i int1:u int2:u]
			[#:c int1:c int2:c]
			[#:i int1:c int2:c]
			[#:pi null:pi null:pi]
			[#:i int1:i]
			[#:i int1:i int1:i int1:i]
			[#1:i int1:i int1:i]
			[#-i:i int1:i int1:i]
		`, "#", kind))
	}
	values(t, false, `
		[conv:pi int0:i]
		[conv:i null:pi]
		[conv:pv func-h:pf()v]
		[conv:pf()v null:pv]
		[conv:pf()v null:pi]
		[conv:j int0:i]
		[conv:pj int0:i]
		[conv:St; local5:pSt;]
		[conv:px null:pv]
		[conv:pa0:i null:pv]
		[conv:p null:pv]
		[conv:i [call:v func-h:pf()v]]
		[conv int0:i]
		[conv:i int0:i int0:i]
		[conv1:i int0:i]
		[conv:f()v null:pf()v]
		conv:v
		[neg:c int5:c]
		[neg:u int5:i]
		[neg:i int5:c]
		[neg:pi null:pi]
		[compl:s int5:s]
		[compl:i null:pi]
		[not:u int5:u]
		[not:c int5:c]
		[not:i [call:v func-h:pf()v]]
		not:i
		[shl:u int1:i int1:i]
		[shl:i int1:u int1:i]
		[shl:i int1:i int1:u]
		[shr:u int1:u int1:u]
		[shl:c int1:c int1:i]
		[shr:i int1:i int1:c]
		[lt:u int1:u int1:u]
		[lt:i int1:i int1:u]
		[lt:i int1:c int1:c]
		[lt:i null:pi null:pc]
		[lt:i null:pv null:pv]
		[le:i null:pSn; null:pSn;]
		[le:i func-h:pf()v func-h:pf()v]
		[lt:i int0:i null:pi]
		[eq:i int1:i int1:u]
		[eq:i int1:s int1:s]
		[eq:i null:pi null:pv]
		[eq:i null:pi int0:i]
		[ne:u int1:u int1:u]
		[eq:i [call:v func-h:pf()v] [call:v func-h:pf()v]]
		[plus1:pi null:pi int1:i]
		[plus0:pi null:pi int1:i]
		[plus-4:pi null:pi int1:i]
		[plus4:pi null:pi int1:u]
		[plus4:pi int1:i null:pi]
		[plus4:pc null:pi int1:i]
		[plus0:pv null:pv int1:i]
		[plus1:pv null:pv int1:i]
		[plus0:pSn; null:pSn; int1:i]
		[plus0:pf()v func-h:pf()v int1:i]
		[plus4:i int1:i int1:i]
		[plus4-a:pi null:pi int1:i]
		[minus1:i null:pi null:pi]
		[minus4:u null:pi null:pi]
		[minus4:pi null:pi int1:i]
		[minus4:i null:pi null:pu]
		[minus0:i null:pv null:pv]
		[minus0:i null:pSn; null:pSn;]
		[minus4:i int1:i int1:i]
		[both:i [call:v func-h:pf()v] int1:i]
		[one:i int1:i [call:v func-h:pf()v]]
		[both:u int1:u int1:u]
		[both:i int1:i]
		[cond:i int1:i int1:i int2:u]
		[cond:u int1:i int1:i int2:i]
		[cond:i [call:v func-h:pf()v] int1:i int2:i]
		[cond:v int1:i [call:v func-h:pf()v] int1:i]
		[cond:pi int1:i null:pi null:pv]
		[cond:i int1:i int1:i]
		[comma:c int1:c int1:i]
		[comma:i int1:i]
		[comma:i int1:i int1:i int1:i]
		[call:u func-main:pf()i]
		[call:i func-main:pf()i int1:i]
		[call:i func-g:pf(i)i]
		[call:i func-g:pf(i)i int1:u]
		[call:i func-g:pf(i)i int1:i int1:i]
		[call:i func-f:pf(i,pc)i null:pc int1:i]
		[call:i null:pi]
		[call:i int1:i]
		[call func-h:pf()v]
		call:i
		[call1:i func-main:pf()i]
		[call-main:i func-main:pf()i]
		built-none:i
		built:i
		built-main:i
		built-getchar:u
		built-getchar:c
		[built-getchar:i int1:i]
		built-putchar:i
		[built-putchar:i int1:c]
		[built-putchar:i int1:i int1:i]
		[built-exit:i int1:i]
		built-exit:v
		[built-setjmp:i null:pi]
		[built-longjmp:v int1:i local6:pj]
		[built-co_new:i func-h:pf()v int1:i int2:i]
		[built1-putchar:i int1:i]
		[built-putchar:i Break]
		[not:i [Block]]
		[conv:v [Block]]
		[comma:i [Block] int1:i]
		[comma:i int1:i [Block]]
		[cond:i int1:i [Block] [Block]]
		[Block]
		SDecl
	`)
}

// 13.3: statements.
func TestRightStatements(t *testing.T) {
	bodies(t, true, `
		[Block]
		[Block [Block] [Expr int1:i] [Expr [call:v func-h:pf()v]]]
		[Block Decl2 [Decl2 int1:c] Decl7 Decl5 Decl6 [Decl4 null:pi]]
		[Block [If int1:c [Block]]]
		[Block [If null:pi [Expr int1:i] [Return int1:i]]]
		[Block [If int1:i Decl2 [Block]]]
		[Block [Loop None int1:i None [Block]]]
		[Block [Loop1 None null:pi None [Block]]]
		[Block [Loop [Decl2 int1:c] int1:i [Expr int1:i] [Block Break Cont]]]
		[Block [Loop [Block Decl5] int1:i [Block] Break]]
		[Block [Loop [Return int1:i] int1:i [Loop None int1:i None Break] Cont]]
		[Block [Loop [Switch int1:i [Block [Case1 Break]]] int1:i [If int1:i [Block] [Block]] Cont]]
		[Block [Loop1 [Expr int1:i] int1:i [Expr int1:i] Cont]]
		[Block [Switch int1:i [Block]]]
		[Block [Switch int1:i [Block [Case1 [Block]] Break [Case-1 [Case2 [Other [Expr int1:i]]]] [Case0 Break]]]]
		[Block [Switch int1:i [Block [Case2147483647 Break] [Case-2147483648 Break] [Other Break]]]]
		[Block [Loop None int1:i None [Switch int1:i [Block [Case1 Cont] Break]]]]
		[Block [Switch int1:i [Block [Case1 [Switch int1:i [Block [Case1 [Block]] [Other [Block]]]]] [Other [Block]]]]]
		[Block [Switch int1:i [Block [If int1:i Break]]]]
		[Block [Return int1:i]]
		[Block [If int1:i [Return int1:i] [Block [Return int2:i]]]]
	`)
	bodies(t, false, `
		[Expr int1:i]
		int1:i
		[Return int1:i]
		None
		Break
		[Block] [Block]
		[Block int1:i]
		[Block None]
		[Block [Block None]]
		[Block:i]
		[Block1]
		[Block-a]
		[Block [Expr:i int1:i]]
		[Block [Expr1 int1:i]]
		[Block [Expr-a int1:i]]
		[Block Expr]
		[Block [Expr int1:i int1:i]]
		[Block [Expr [Block]]]
		[Block Decl0]
		[Block Decl1]
		[Block Decl10]
		[Block Decl-1]
		[Block [Decl2 int1:i]]
		[Block [Decl2 int1:c int1:c]]
		[Block [Decl2 Break]]
		[Block [Decl5 local5:pSt;]]
		[Block [Decl7 local7:pa3:i]]
		[Block [Decl2-c int1:c]]
		[Block Decl2:c]
		[Block [If int1:i]]
		[Block [If int1:i [Block] [Block] [Block]]]
		[Block [If [Block] [Block]]]
		[Block [If int1:i int1:i]]
		[Block [If int1:i [Block] int1:i]]
		[Block [If [call:v func-h:pf()v] [Block]]]
		[Block [If int1:i None]]
		[Block [If int1:i [Block] None]]
		[Block [If1 int1:i [Block]]]
		[Block [Loop None int1:i None]]
		[Block [Loop None int1:i None [Block] [Block]]]
		[Block [Loop None int1:i None None]]
		[Block [Loop2 None int1:i None [Block]]]
		[Block [Loop-1 None int1:i None [Block]]]
		[Block [Loop int1:i int1:i None [Block]]]
		[Block [Loop None int1:i int1:i [Block]]]
		[Block [Loop None [Block] None [Block]]]
		[Block [Loop None None None [Block]]]
		[Block [Loop None [call:v func-h:pf()v] None [Block]]]
		[Block [Loop None int1:i None int1:i]]
		[Block [Loop Break int1:i None [Block]]]
		[Block [Loop None int1:i Break [Block]]]
		[Block [Loop None int1:i Cont [Block]]]
		[Block [Loop None int1:i None [Loop Break int1:i None [Block]]]]
		[Block [Loop None int1:i None [Loop None int1:i [Block Cont] [Block]]]]
		[Block [Switch int1:i [Block [Loop [If int1:i Break] int1:i None [Block]]]]]
		[Block [Switch int1:i [Block [Case1 [Loop None int1:i [Case2 [Block]] [Block]]]]]]
		[Block [Loop [Block None] int1:i None [Block]]]
		[Block [Switch int1:u [Block]]]
		[Block [Switch int1:c [Block]]]
		[Block [Switch null:pi [Block]]]
		[Block [Switch int1:i [Expr int1:i]]]
		[Block [Switch int1:i [Case1 [Block]]]]
		[Block [Switch int1:i [Other [Block]]]]
		[Block [Switch int1:i Break]]
		[Block [Switch int1:i]]
		[Block [Switch int1:i [Block] [Block]]]
		[Block [Switch [Block] [Block]]]
		[Block [Switch1 int1:i [Block]]]
		[Block [Case1 [Block]]]
		[Block [Other [Block]]]
		[Block [Switch int1:i [Block [Block [Case1 [Block]]]]]]
		[Block [Switch int1:i [Block [If int1:i [Case1 [Block]]]]]]
		[Block [Switch int1:i [Block [Case1 [Block [Case2 [Block]]]]]]]
		[Block [Switch int1:i [Block [Case1 [Block]] [Case1 [Block]]]]]
		[Block [Switch int1:i [Block [Case1 [Case1 [Block]]]]]]
		[Block [Switch int1:i [Block [Other [Block]] [Other [Block]]]]]
		[Block [Switch int1:i [Block [Other [Case1 [Other [Block]]]]]]]
		[Block [Switch int1:i [Block [Case2147483648 [Block]]]]]
		[Block [Switch int1:i [Block [Case-2147483649 [Block]]]]]
		[Block [Switch int1:i [Block [Case4294967295 [Block]]]]]
		[Block [Switch int1:i [Block Case1]]]
		[Block [Switch int1:i [Block [Case1 int1:i]]]]
		[Block [Switch int1:i [Block [Case1 [Block] [Block]]]]]
		[Block [Switch int1:i [Block [Case1-a [Block]]]]]
		[Block [Switch int1:i [Block [Case1:i [Block]]]]]
		[Block [Switch int1:i [Block [Other1 [Block]]]]]
		[Block [Switch int1:i [Block [Case1 None]]]]
		[Block Break]
		[Block Cont]
		[Block [Switch int1:i [Block Cont]]]
		[Block [Loop None int1:i None [Block]] Break]
		[Block [Loop None int1:i None [Break [Block]]]]
		[Block [Loop None int1:i None [Cont int1:i]]]
		[Block [Loop None int1:i None Break1]]
		[Block [Loop [None [Block]] int1:i None [Block]]]
		[Block [Loop None1 int1:i None [Block]]]
		[Block [Loop None:i int1:i None [Block]]]
		[Block Return]
		[Block [Return int1:u]]
		[Block [Return null:pi]]
		[Block [Return [call:v func-h:pf()v]]]
		[Block [Return int1:i int1:i]]
		[Block [Return [Block]]]
		[Block [Return1 int1:i]]
		[Block other]
	`)
	same(t, "a return", check.Check(program(t, "v", "[Block Return [If int1:i Return]]")), api.Fault{})
	same(t, "a return", check.Check(program(t, "v", "[Block [Return int1:i]]")), api.Fault{At: 1, Code: api.ErrTree})
	same(t, "a return", check.Check(program(t, "v", "[Block [Return [call:v func-h:pf()v]]]")), api.Fault{At: 1, Code: api.ErrTree})
	same(t, "a return", check.Check(program(t, "pSn;", "[Block [Return null:pSn;]]")), api.Fault{})
}

// 13.3: where a core tree may have a setjmp.
func TestRightSetjmp(t *testing.T) {
	set := strings.NewReplacer("#", "[built-setjmp:i local6:pj]").Replace
	bodies(t, true, set(`
		[Block [Expr #]]
		[Block [Expr [conv:v #]]]
		[Block [Expr [conv:v [conv:v #]]]]
		[Block [If # [Block]]]
		[Block [Loop None # None [Block]]]
		[Block [Loop [Expr #] int1:i [Expr #] [Expr #]]]
		[Block [Switch # [Block]]]
		[Block [If [not:i #] [Block]]]
		[Block [If [not:i [not:i [conv:c #]]] [Block]]]
		[Block [If [lt:i # int1:i] [Block]]]
		[Block [If [not:i [le:i int1:i #]] [Block]]]
		[Block [If [eq:i [conv:u #] [neg:u int1:u]] [Block]]]
		[Block [If [ne:i [lt:i # int1:i] int0:i] [Block]]]
		[Block [Switch [eq:i # [cond:i int1:i [both:i int1:i null:pi] [one:i int1:i [compl:i [shl:i int1:i [conv:i int1:c]]]]]] [Block]]]
		[Block [If [eq:i # [lt:i null:pi null:pi]] [Block]]]
		[Block [If [eq:i # [ne:i int1:i int1:i]] [Block]]]
		[Block [If [built-setjmp:i [cond:pj int1:i local6:pj local6:pj]] [Block]]]
	`))
	bodies(t, false, set(`
		[Block [Decl2 [conv:c #]]]
		[Block [Return #]]
		[Block [Expr [neg:i #]]]
		[Block [Expr [compl:i #]]]
		[Block [If [add:i # int1:i] [Block]]]
		[Block [If [shl:i int1:i #] [Block]]]
		[Block [If [both:i # int1:i] [Block]]]
		[Block [If [one:i int1:i #] [Block]]]
		[Block [If [cond:i # int1:i int1:i] [Block]]]
		[Block [If [comma:i int1:i #] [Block]]]
		[Block [Expr [store:i local0:pi #]]]
		[Block [Expr [update14-i:i local0:pi #]]]
		[Block [Expr [plus4:pi null:pi #]]]
		[Block [Expr [built-putchar:i #]]]
		[Block [Expr [call:i func-g:pf(i)i #]]]
		[Block [If [lt:i # [load:i local0:pi]] [Block]]]
		[Block [If [lt:i [load:i local0:pi] #] [Block]]]
		[Block [If [lt:i # built-getchar:i] [Block]]]
		[Block [If [lt:i # #] [Block]]]
		[Block [If [lt:i # [minus1:i null:pc null:pc]] [Block]]]
		[Block [If [eq:i # [eq:i func-h:pf()v null:pf()v]] [Block]]]
		[Block [If [eq:i # [eq:i local0:pi null:pi]] [Block]]]
		[Block [If [eq:i # [eq:i [field0:pi null:pa3:i] null:pi]] [Block]]]
		[Block [If [eq:i # [comma:i int1:i int1:i]] [Block]]]
		[Block [If [eq:i # [eq:i [copy:pSt; null:pSt; null:pSt;] null:pSt;]] [Block]]]
		[Block [If [eq:i # [eq:i [plus4:pi null:pi int1:i] null:pi]] [Block]]]
		[Block [If [ne:i [lt:i # int1:i] [load:i local0:pi]] [Block]]]
		[Block [If [not:i [add:i # int0:i]] [Block]]]
		[Block [Expr [built-setjmp:i [comma:pj # local6:pj]]]]
		[Block [Expr [built-setjmp:i [cond:pj # local6:pj local6:pj]]]]
	`))
}

// 13.3: At, and numbers of parts that no tree has.
func TestRightPlaces(t *testing.T) {
	for _, at := range []int{0, 1, api.MaxText} {
		c := program(t, "i", "[Block [Expr int1:i]]")
		for i := range c.Funcs[1].Body {
			c.Funcs[1].Body[i].At = at
		}
		same(t, "At", check.Check(c), api.Fault{})
	}
	for i := range 3 {
		for _, at := range []int{-1, api.MaxText + 1, 1 << 62, -1 << 63} {
			c := program(t, "i", "[Block [Expr int1:i]]")
			c.Funcs[1].Body[i].At = at
			same(t, "At", check.Check(c), api.Fault{At: 1, Code: api.ErrTree})
		}
		for _, n := range []int{-1, 2, 3, 1 << 62, 1<<63 - 1, -1 << 63} {
			c := program(t, "i", "[Block [Expr int1:i]]")
			c.Funcs[1].Body[i].N = n
			same(t, "N", check.Check(c), api.Fault{At: 1, Code: api.ErrTree})
		}
		for _, kind := range []int{0, -1, 39, 52, 99, 1 << 62, -1 << 63} {
			c := program(t, "i", "[Block [Expr int1:i]]")
			c.Funcs[1].Body[i].Kind = kind
			same(t, "Kind", check.Check(c), api.Fault{At: 1, Code: api.ErrTree})
		}
	}
	c := program(t, "i", "[Block]")
	for _, x := range []api.Tree{nil, {}} {
		c.Funcs[1].Body = x
		same(t, "no body", check.Check(c), api.Fault{At: 1, Code: api.ErrTree})
	}
}

// 13.3: how many nodes a body has, and how deep it is.
func TestRightSizes(t *testing.T) {
	c := program(t, "i", "[Block]")
	nodes := func(n int) api.Tree {
		return append(slices.Repeat(api.Tree{{Kind: api.SBlock}}, n-1), api.Node{Kind: api.SBlock, N: n - 1})
	}
	deep := func(n int) api.Tree {
		l := append(api.Tree{{Kind: api.KInt, Type: "i"}}, slices.Repeat(api.Tree{{Kind: api.KNeg, N: 1, Type: "i"}}, n-3)...)
		return append(l, api.Node{Kind: api.SExpr, N: 1}, api.Node{Kind: api.SBlock, N: 1})
	}
	for _, r := range []struct {
		body  api.Tree
		right bool
	}{{nodes(32768), true}, {nodes(32769), false}, {deep(384), true}, {deep(385), false}, {slices.Repeat(api.Tree{{Kind: api.SBlock, N: 1 << 40}}, 1<<20), false}} {
		c.Funcs[1].Body = r.body
		want := api.Fault{At: 1, Code: api.ErrTree}
		if r.right {
			want = api.Fault{}
		}
		same(t, "a great body", check.Check(c), want)
	}
}
