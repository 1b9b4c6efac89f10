package parse_test

import (
	"fmt"
	"strconv"
	"strings"
	"testing"

	"catapult/api"
	"catapult/lex"
	"catapult/parse"
)

// all is values in a row, an empty list as none.
func all(l ...any) string { return strings.TrimSuffix(fmt.Sprintln(l...), "\n") }

// same holds what is told against what must be.
func same(t *testing.T, what string, got, want any) {
	t.Helper()
	if g, w := fmt.Sprint(got), fmt.Sprint(want); g != w {
		t.Fatalf("%.400s:\n%.2000s, not\n%.2000s", what, g, w)
	}
}

// label is what a node is beside its parts.
func label(n api.Node) string {
	switch n.Kind {
	case api.NInt:
		return strconv.Itoa(n.Int) + strings.TrimPrefix(string(n.Type), "i")
	case api.NString:
		return lex.Quote(n.Text)
	case api.NPre:
		return n.Text + "_"
	case api.NPost:
		return "_" + n.Text
	case api.NDot, api.NArrow:
		return map[int]string{api.NDot: ".", api.NArrow: "->"}[n.Kind] + n.Text
	case api.NCast, api.NSizeT:
		return map[int]string{api.NCast: "", api.NSizeT: "sizeof"}[n.Kind] + "<" + string(n.Type) + ">"
	case api.NDecl:
		return strings.Repeat("volatile", n.Int) + "<" + string(n.Type) + ">" + n.Text
	}
	return n.Text + map[int]string{
		api.NCond: "?:", api.NComma: ",", api.NCall: "call", api.NIndex: "[]", api.NSizeof: "sizeof", api.NExpr: "expr", api.NBlock: "block", api.NIf: "if", api.NWhile: "while", api.NDo: "do",
		api.NFor: "for", api.NSwitch: "switch", api.NCase: "case", api.NDefault: "default", api.NBreak: "break", api.NCont: "continue", api.NReturn: "return", api.NNone: "none",
	}[n.Kind]
}

// told is a tree, each whole ahead of its parts, in brackets with them; with the nodes' places behind their labels, if that is asked for.
func told(t api.Tree, places bool) string {
	var l []string
	for _, n := range t {
		s := label(n)
		if places {
			s += "@" + strconv.Itoa(n.At)
		}
		rest := len(l) - n.N
		if n.N > 0 {
			s = "(" + s + " " + strings.Join(l[rest:], " ") + ")"
		}
		l = append(l[:rest], s)
	}
	return strings.Join(l, " | ")
}

// The chapter's examples.
func TestExamplesOfTheChapter(t *testing.T) {
	for s, want := range map[string]api.Unit{
		"int (*f)(char *, int[3]);":  {Globals: []api.Global{{Var: api.Var{Name: "f", Type: "pf(pc,pi)i"}}}},
		"int *g(void) { return 0; }": {Funcs: []api.Func{{Name: "g", Type: "f()pi", Body: api.Tree{{Kind: api.NInt, At: 22, Type: "i"}, {Kind: api.NReturn, N: 1, At: 15}, {Kind: api.NBlock, N: 1, At: 13}}}}},
		"char a[2][3];":              {Globals: []api.Global{{Var: api.Var{Name: "a", Type: "a2:a3:c"}}}},
	} {
		u, f := parse.Unit(s)
		same(t, s, all(u, f), all(want, api.Fault{}))
	}
	for s, want := range map[string]string{
		"a = b = c + d * e": "(= a (= b (+ c (* d e))))", "(char)a + 1": "(+ (<c> a) 1)", "sizeof(int) * 2": "(* sizeof<i> 2)", "sizeof(a) * 2": "(* (sizeof a) 2)", "-a++": "(- (_++ a))",
	} {
		x, f := parse.Expr(s)
		same(t, s, all(told(x, false), f), all(want, api.Fault{}))
	}
	u, f := parse.Unit("int x = ;")
	same(t, "int x = ;", all(u, f), all(api.Unit{}, api.Fault{At: 8, Code: api.ErrSyntax}))
	for s, want := range map[string]string{
		"if (a) if (b) c; else d;": "(if a (if b (expr c) (expr d)))", "for (int i = 0; ; ) ;": "(for (<i>i 0) none none block)",
	} {
		x, f := parse.Stmt(s)
		same(t, s, all(told(x, false), f), all(want, api.Fault{}))
	}
}
