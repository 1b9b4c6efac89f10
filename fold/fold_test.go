package fold_test

import (
	"fmt"
	"strings"
	"testing"

	"catapult/api"
	"catapult/fold"
	"catapult/parse"
	"catapult/tree"
)

// all is values in a row, an empty list as none.
func all(l ...any) string { return strings.TrimSuffix(fmt.Sprintln(l...), "\n") }

// same holds what is told against what must be.
func same(t *testing.T, what string, got, want any) {
	t.Helper()
	if g, w := fmt.Sprint(got), fmt.Sprint(want); g != w {
		t.Fatalf("%.3000s:\n%.2000s, not\n%.2000s", what, g, w)
	}
}

// structs are those that the texts of the tests name.
func structs() []api.Struct {
	return []api.Struct{
		{Name: "t", Members: []api.Member{{Name: "c", Type: "c"}, {Name: "i", Type: "i"}}},
		{Name: "w", Members: []api.Member{{Name: "a", Type: "a5:St;"}, {Name: "s", Type: "s"}, {Name: "j", Type: "j"}}},
	}
}

// read is the tree of a text.
func read(t *testing.T, s string) api.Tree {
	t.Helper()
	x, f := parse.Expr(s)
	same(t, s, f, api.Fault{})
	return x
}

// printed is a tree as a text.
func printed(t *testing.T, x api.Tree) string {
	t.Helper()
	s, e := tree.PrintExpr(x)
	same(t, all(x), e, api.OK)
	return s
}

// value is what Eval tells of a text: the number, and the type behind it.
func value(t *testing.T, s string) string {
	t.Helper()
	n, x, e := fold.Eval(read(t, s), structs())
	same(t, s, fold.Is(read(t, s), structs()), e == api.OK)
	if e != api.OK {
		same(t, s, all(n, x == ""), all(0, true))
		return e.Error()
	}
	return all(n, x)
}

// values holds what Eval tells against what must be, line by line: a text, =>, the number and the type.
func values(t *testing.T, table string) {
	t.Helper()
	for l := range strings.Lines(table) {
		s, want, ok := strings.Cut(strings.TrimSpace(l), " => ")
		if ok {
			same(t, s, value(t, s), strings.TrimSpace(want))
		}
	}
}

// folds holds what Fold tells against what must be, line by line: a text, =>, the text of what it is folded to.
func folds(t *testing.T, table string) {
	t.Helper()
	for l := range strings.Lines(table) {
		s, want, ok := strings.Cut(strings.TrimSpace(l), " => ")
		if ok {
			x, e := fold.Fold(read(t, s), structs())
			same(t, s, all(e, printed(t, x)), all(api.OK, printed(t, read(t, want))))
		}
	}
}

// The chapter's examples.
func TestExamplesOfTheChapter(t *testing.T) {
	values(t, `
		1 ? 2 : 3 / 0 => 2 i
		-1 < 0u => 0 i
		(char)200 => -56 c
		sizeof(int[3]) => 12 u
		1 << 33 => 2 i
		5 % -3 => 2 i
		1 / 0 => error 120
	`)
	folds(t, `
		a[1 + 2] => a[3]
		f(2 - 5) => f(-3)
	`)
	x, e := fold.Fold(read(t, "f(2 - 5)"), nil)
	want := api.Tree{
		{Kind: api.NName, Text: "f"},
		{Kind: api.NInt, At: 2, Int: 3, Type: "i"}, {Kind: api.NUnary, N: 1, At: 2, Text: "-"},
		{Kind: api.NCall, N: 2},
	}
	same(t, "f(2 - 5)", all(x, e), all(want, api.OK))
}
