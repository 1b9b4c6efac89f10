package check_test

import (
	"fmt"
	"slices"
	"strconv"
	"strings"
	"testing"

	"catapult/api"
	"catapult/check"
	"catapult/parse"
)

// all is values in a row, an empty list as none.
func all(l ...any) string { return strings.TrimSuffix(fmt.Sprintln(l...), "\n") }

// same holds what is told against what must be.
func same(t *testing.T, what string, got, want any) {
	t.Helper()
	if g, w := fmt.Sprint(got), fmt.Sprint(want); g != w {
		t.Fatalf("%.3000s:\n%.3000s, not\n%.3000s", what, g, w)
	}
}

// unit is a text read.
func unit(t *testing.T, s string) api.Unit {
	t.Helper()
	u, f := parse.Unit(s)
	same(t, s, f, api.Fault{})
	return u
}

// expr is the text of an expression read.
func expr(t *testing.T, s string) api.Tree {
	t.Helper()
	x, f := parse.Expr(s)
	same(t, s, f, api.Fault{})
	return x
}

// core is the core program of a text; it must be right.
func core(t *testing.T, s string) api.Core {
	t.Helper()
	c, f := check.Unit(unit(t, s))
	same(t, s, all(f, check.Check(c)), all(api.Fault{}, api.Fault{}))
	return c
}

// fault is what Unit tells of a text that is wrong: the byte, and the error.
func fault(t *testing.T, s string) string {
	t.Helper()
	c, f := check.Unit(unit(t, s))
	same(t, s, all(c), all(api.Core{}))
	return all(f.At, int(f.Code))
}

// kindNames is the kinds of core nodes, from KInt on and from SExpr on.
const (
	valueNames     = "int null func local global string load store copy conv neg compl not add sub mul div rem and or xor shl shr lt le eq ne plus minus field both one cond comma update incr call built"
	statementNames = "Expr Block Decl If Loop Switch Case Other Break Cont Return None"
)

// kindName is the name of a kind of core nodes.
func kindName(kind int) string {
	if l := strings.Fields(statementNames); kind >= api.SExpr && kind < api.SExpr+len(l) {
		return l[kind-api.SExpr]
	}
	return strings.Fields(valueNames)[kind-api.KInt]
}

// label is a core node beside its parts: numbers with their types; the places of slots, globals and strings as & and what is there; functions as @ and their names; of others the kind's name, the number and the text, and behind : the type.
func label(n api.Node, slots []api.Slot) string {
	switch n.Kind {
	case api.KInt:
		return strconv.Itoa(n.Int) + string(n.Type)
	case api.KLocal:
		return "&" + slots[n.Int].Name
	case api.KGlobal:
		return "&" + n.Text
	case api.KString:
		return "&" + strconv.Itoa(n.Int)
	case api.KFunc:
		return "@" + n.Text
	}
	s := kindName(n.Kind)
	switch {
	case n.Kind == api.KUpdate:
		s += "-" + kindName(n.Int) + "-" + n.Text
	case n.Kind == api.SDecl:
		s += "-" + slots[n.Int].Name
	case n.Int != 0 || n.Kind == api.KField || n.Kind == api.SCase:
		s += strconv.Itoa(n.Int)
	}
	if n.Text != "" && n.Kind != api.KUpdate {
		s += "-" + n.Text
	}
	if n.Type != "" {
		s += ":" + string(n.Type)
	}
	return s
}

// told is a core tree, each whole ahead of its parts, in brackets with them; with the nodes' places behind @, if that is asked for.
func told(t api.Tree, slots []api.Slot, places bool) string {
	var l []string
	for _, n := range t {
		s := label(n, slots)
		if places {
			s += "@" + strconv.Itoa(n.At)
		}
		rest := len(l) - n.N
		if n.N > 0 {
			s = "(" + s + " " + strings.Join(l[rest:], " ") + ")"
		}
		l = append(l[:rest], s)
	}
	return strings.Join(l, " | ")
}

// scene is what the expressions of the tests stand among: slots and globals named alike, those with capital letters.
const scene = `
	struct t { char c; int i; char a[3]; struct t *n; int (*h)(int); };
	struct w { struct t t; jmp_buf j; short s; };
	char C; short S; int I; unsigned U; int *P; char *Q; void *V; int A[3]; char B[2][3]; struct t T; struct w W; jmp_buf J; int (*F)(int); struct t *N; struct none *X; int **PP;
	int f(int a) { return a; }
	char *g(char *a, short b) { return a; }
	void h(void) { }
	struct t *k(unsigned a, struct t *b) { return b; }
	void l(int (*a)(int)) { }
	int z(int);
	int main() { return 0; }
`

// slots is the slots of the scene.
func slots() []api.Slot {
	return []api.Slot{
		{Name: "c", Type: "c"}, {Name: "s", Type: "s"}, {Name: "i", Type: "i"}, {Name: "u", Type: "u"}, {Name: "p", Type: "pi"}, {Name: "q", Type: "pc"}, {Name: "v", Type: "pv"},
		{Name: "a", Type: "a3:i"}, {Name: "b", Type: "a2:a3:c"}, {Name: "t", Type: "St;"}, {Name: "w", Type: "Sw;"}, {Name: "j", Type: "j"}, {Name: "o", Type: "pf(i)i"}, {Name: "n", Type: "pSt;"}, {Name: "x", Type: "pSnone;"}, {Name: "pp", Type: "ppi"},
	}
}

// typed is what Expr tells of a text in the scene: the core tree, or the byte and the error.
func typed(t *testing.T, s string, places bool) string {
	t.Helper()
	x, f := check.Expr(unit(t, scene), slots(), expr(t, s))
	if f.Code != api.OK {
		same(t, s, len(x), 0)
		return all(f.At, int(f.Code))
	}
	return told(x, slots(), places)
}

// rows goes over the lines of a table: a text, =>, what must be told of it.
func rows(table string, yield func(s, want string)) {
	for l := range strings.Lines(table) {
		if s, want, ok := strings.Cut(strings.TrimSpace(l), " => "); ok {
			yield(strings.TrimSpace(s), strings.TrimSpace(want))
		}
	}
}

// trees holds what Expr tells against what must be, row by row.
func trees(t *testing.T, table string) {
	t.Helper()
	rows(table, func(s, want string) { same(t, s, typed(t, s, false), want) })
}

// body is the body of the function of a name in a core program.
func body(t *testing.T, c api.Core, name string) api.CoreFunc {
	t.Helper()
	i := slices.IndexFunc(c.Funcs, func(f api.CoreFunc) bool { return f.Name == name })
	if i < 0 {
		t.Fatalf("no %s in %v", name, c)
	}
	return c.Funcs[i]
}

// The chapter's examples.
func TestExamplesOfTheChapter(t *testing.T) {
	f := body(t, core(t, "int main() { char c = 'a'; c += 1; return c; }"), "main")
	same(t, "first example", told(f.Body, f.Slots, false), "(Block (Decl-c (conv:c 97i)) (Expr (update-add-i:c &c 1i)) (Return (conv:i (load:c &c))))")
	core(t, "int main() { jmp_buf b; if (setjmp(b) == 0) ; return 0; }")
	core(t, "int main() { jmp_buf b; while (!setjmp(b)) ; return 0; }")
	same(t, "second example", fault(t, "int main() { jmp_buf b; int x; x = setjmp(b); return 0; }"), "35 135")
	same(t, "second example", fault(t, "int main() { jmp_buf b; if (setjmp(b) + 1) ; return 0; }"), "28 135")
}

// The examples of the whole document that check tells of.
func TestExamplesOfTheDocument(t *testing.T) {
	f := body(t, core(t, "int main() { char c = 'a'; return c < 2; }"), "main")
	same(t, "example 3", told(f.Body, f.Slots, false), "(Block (Decl-c (conv:c 97i)) (Return (lt:i (conv:i (load:c &c)) 2i)))")
	same(t, "example 4", fault(t, "int main() { jmp_buf b; int x; if (setjmp(b) == 0) ; x = setjmp(b); }"), "57 135")
	core(t, "int main() { jmp_buf b; int n = 0; if (setjmp(b) < 3) { n++; longjmp(b, 5); } return n; }")
	core(t, "int f(int a) { a = co_yield(a + 1); return a * 2; } int main() { int h; h = co_new(f, 5, 256); co_resume(h, 0); return co_done(h); }")
	same(t, "main returns x", fault(t, "int main() { return x; }"), "20 130")
}
