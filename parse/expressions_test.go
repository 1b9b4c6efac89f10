package parse_test

import (
	"strings"
	"testing"

	"catapult/api"
	"catapult/parse"
)

// expr reads an expression that is right.
func expr(t *testing.T, s string) api.Tree {
	t.Helper()
	x, f := parse.Expr(s)
	same(t, s, f, api.Fault{})
	return x
}

// 10.3, Expr: each rule of the grammar, and what it means.
func TestExpressions(t *testing.T) {
	for s, want := range map[string]string{
		"a": "a", "12": "12", "0": "0", "7u": "7u", "2147483647": "2147483647", "2147483648": "2147483648u", "4294967295": "4294967295u", "0x10": "16", "'a'": "97", `'\xff'`: "-1", `'\x80'`: "-128", `"a" "b\n"`: `"ab\n"`, `""`: `""`, "(a)": "a", "((a))": "a",
		"a, b, c": "(, (, a b) c)", "a = b, c": "(, (= a b) c)", "a, b = c": "(, a (= b c))", "a, (b, c)": "(, a (, b c))",
		"a = b": "(= a b)", "a *= b": "(*= a b)", "a /= b": "(/= a b)", "a %= b": "(%= a b)", "a += b": "(+= a b)", "a -= b": "(-= a b)", "a <<= b": "(<<= a b)", "a >>= b": "(>>= a b)", "a &= b": "(&= a b)", "a ^= b": "(^= a b)", "a |= b": "(|= a b)",
		"a = b += c": "(= a (+= b c))", "(a = b) = c": "(= (= a b) c)", "-a = b": "(= (- a) b)", "++a = b": "(= (++_ a) b)", "a++ = b": "(= (_++ a) b)", "sizeof a = b": "(= (sizeof a) b)", "sizeof (int) = b": "(= sizeof<i> b)", "*(int *)a = b": "(= (* (<pi> a)) b)", "(a + b) = c": "(= (+ a b) c)", "((int)a) = c": "(= (<i> a) c)", "f(a) = 1 = 2": "(= (call f a) (= 1 2))", "a = b ? c : d": "(= a (?: b c d))", "a[1] = 2": "(= ([] a 1) 2)", `"a" = 1`: `(= "a" 1)`,
		"a ? b : c": "(?: a b c)", "a ? b : c ? d : e": "(?: a b (?: c d e))", "a ? b ? c : d : e": "(?: a (?: b c d) e)", "(a ? b : c) ? d : e": "(?: (?: a b c) d e)", "a ? b, c : d": "(?: a (, b c) d)", "a ? b = c : d": "(?: a (= b c) d)", "a ? b : (c = d)": "(?: a b (= c d))", "a || b ? c : d || e": "(?: (|| a b) c (|| d e))", "(int)a ? b : (int)c": "(?: (<i> a) b (<i> c))",
		"a || b || c": "(|| (|| a b) c)", "a && b || c && d": "(|| (&& a b) (&& c d))", "a | b && c | d": "(&& (| a b) (| c d))", "a ^ b | c ^ d": "(| (^ a b) (^ c d))", "a & b ^ c & d": "(^ (& a b) (& c d))", "a == b & c != d": "(& (== a b) (!= c d))", "a < b == c > d": "(== (< a b) (> c d))", "a <= b != c >= d": "(!= (<= a b) (>= c d))", "a << b < c >> d": "(< (<< a b) (>> c d))", "a + b << c - d": "(<< (+ a b) (- c d))", "a * b + c / d - e % f": "(- (+ (* a b) (/ c d)) (% e f))",
		"a - b - c": "(- (- a b) c)", "a - (b - c)": "(- a (- b c))", "a == b != c == d": "(== (!= (== a b) c) d)", "a < b <= c": "(<= (< a b) c)", "a / b * c % d": "(% (* (/ a b) c) d)", "a >> b << c": "(<< (>> a b) c)", "(a || b) && c": "(&& (|| a b) c)", "a * b * c": "(* (* a b) c)", "a & b & c": "(& (& a b) c)", "a | b | c": "(| (| a b) c)", "a ^ b ^ c": "(^ (^ a b) c)", "a && b && c": "(&& (&& a b) c)",
		"a | b ^ c & d == e < f << g + h * i": "(| a (^ b (& c (== d (< e (<< f (+ g (* h i))))))))", "a * b + c << d < e == f & g ^ h | i": "(| (^ (& (== (< (<< (+ (* a b) c) d) e) f) g) h) i)", "a + b * c - d": "(- (+ a (* b c)) d)",
		"(int)a": "(<i> a)", "(char)(int)a": "(<c> (<i> a))", "(int)-a": "(<i> (- a))", "(int)a++": "(<i> (_++ a))", "(int)a * b": "(* (<i> a) b)", "(int)(a * b)": "(<i> (* a b))", "(struct s *)a->b": "(<pSs;> (->b a))", "(int (*)(int))a": "(<pf(i)i> a)", "(void)a": "(<v> a)", "(int[3])a": "(<a3:i> a)", "(int(void))a": "(<f()i> a)", "(struct none)a": "(<Snone;> a)", "(int)sizeof (char)": "(<i> sizeof<c>)",
		"-a": "(- a)", "~a": "(~ a)", "!a": "(! a)", "&a": "(& a)", "*a": "(* a)", "- -a": "(- (- a))", "--a": "(--_ a)", "++a": "(++_ a)", "++ ++a": "(++_ (++_ a))", "-(int)a": "(- (<i> a))", "!a + b": "(+ (! a) b)", "-a * b": "(* (- a) b)", "a * -b": "(* a (- b))", "a - -b": "(- a (- b))", "a & &b": "(& a (& b))", "a * *b": "(* a (* b))", "++-a": "(++_ (- a))", "++sizeof a": "(++_ (sizeof a))", "++((int)a)": "(++_ (<i> a))", "++*a": "(++_ (* a))", "&*a": "(& (* a))",
		"sizeof a": "(sizeof a)", "sizeof sizeof a": "(sizeof (sizeof a))", "sizeof (a)": "(sizeof a)", "sizeof (a)[1]": "(sizeof ([] a 1))", "sizeof (a)++": "(sizeof (_++ a))", "sizeof -a": "(sizeof (- a))", "sizeof (a) + 1": "(+ (sizeof a) 1)", "sizeof (a + 1)": "(sizeof (+ a 1))", "sizeof (int) + 1": "(+ sizeof<i> 1)", "sizeof (int) * a": "(* sizeof<i> a)", "sizeof (int) - 1": "(- sizeof<i> 1)", "sizeof (int) & a": "(& sizeof<i> a)", "sizeof ((int)a)": "(sizeof (<i> a))", "sizeof (struct s [2])": "sizeof<a2:Ss;>", "sizeof (void)": "sizeof<v>", "sizeof ++a": "(sizeof (++_ a))", "sizeof a * b": "(* (sizeof a) b)", "sizeof -(int)a": "(sizeof (- (<i> a)))", "sizeof (int(*)[2])": "sizeof<pa2:i>",
		"a[1]": "([] a 1)", "a[1, 2]": "([] a (, 1 2))", "a[b = c]": "([] a (= b c))", "a[1][2]": "([] ([] a 1) 2)", "1[a]": "([] 1 a)", `"ab"[0]`: `([] "ab" 0)`, "a()": "(call a)", "a(b)": "(call a b)", "a(b, c)": "(call a b c)", "a((b, c))": "(call a (, b c))", "a(b = c, d ? e : f)": "(call a (= b c) (?: d e f))", "a()()": "(call (call a))", "a(1)(2)[3].b->c++--": "(_-- (_++ (->c (.b ([] (call (call a 1) 2) 3)))))", "a.b": "(.b a)", "a->b": "(->b a)", "a.b.c": "(.c (.b a))", "a++": "(_++ a)", "a--": "(_-- a)", "-a.b": "(- (.b a))", "*a++": "(* (_++ a))", "(*a)++": "(_++ (* a))", "(*a)(b)": "(call (* a) b)", "++a[1]": "(++_ ([] a 1))", "&a->b": "(& (->b a))", "(a, b)[c]": "([] (, a b) c)", "(a = b).c": "(.c (= a b))", "((int)a).b": "(.b (<i> a))", "a+++b": "(+ (_++ a) b)", "f(1,2,3,4,5,6,7,8)": "(call f 1 2 3 4 5 6 7 8)",
	} {
		same(t, s, told(expr(t, s), false), want)
	}
}

// 10: a node's place is that of its first token; what is in brackets is at its own place, and what has it as its first part begins at the bracket.
func TestPlacesOfExpressions(t *testing.T) {
	for s, want := range map[string]string{
		"(a)": "a@1", " ((a))": "a@3", "(a + b)": "(+@1 a@1 b@5)", "(a) + b": "(+@0 a@1 b@6)", "a + (b)": "(+@0 a@0 b@5)", "((a) + b) * c": "(*@0 (+@1 a@2 b@7) c@12)", "a - b - c": "(-@0 (-@0 a@0 b@4) c@8)", "a - (b - c)": "(-@0 a@0 (-@5 b@5 c@9))", "a + b * c": "(+@0 a@0 (*@4 b@4 c@8))", "a + (b) * c": "(+@0 a@0 (*@4 b@5 c@10))",
		"(a) = (b) = c": "(=@0 a@1 (=@6 b@7 c@12))", "(a) ? (b) : (c) ? d : e": "(?:@0 a@1 b@7 (?:@12 c@13 d@18 e@22))", "(a), (b), c": "(,@0 (,@0 a@1 b@6) c@10)", "/**/(a)[(b)](c)": "(call@4 ([]@4 a@5 b@9) c@13)", "(a).b->c++": "(_++@0 (->c@0 (.b@0 a@1)))", "- (a)": "(-@0 a@3)", "++ (a)": "(++_@0 a@4)", "(int) (a)": "(<i>@0 a@7)", "a * (int) b": "(*@0 a@0 (<i>@4 b@10))", "sizeof (a)": "(sizeof@0 a@8)", "a + sizeof (int)": "(+@0 a@0 sizeof<i>@4)", "((a))()": "(call@0 a@2)", `"a" /* */ "b" [0]`: `([]@0 "ab"@0 0@15)`, "(int) (a) + 1": "(+@0 (<i>@0 a@7) 1@12)", "((int) a) + 1": "(+@0 (<i>@1 a@7) 1@12)", "f ( (a) , (b = c) )": "(call@0 f@0 a@5 (=@11 b@11 c@15))", "((a)) = ((b), c)": "(=@0 a@2 (,@9 b@10 c@14))", "(a) || b && (c)": "(||@0 a@1 (&&@7 b@7 c@13))",
	} {
		same(t, s, told(expr(t, s), true), want)
	}
}

// 10.3, Expr: what tree.Check tells of what was read.
func TestWrongExpressions(t *testing.T) {
	for s, want := range map[string]api.Errno{
		" f(1,2,3,4,5,6,7,8,9)": api.ErrTree, "(int[0])a": api.ErrTree, "sizeof (int[65537])": api.ErrTree, "(int(int)(int))a": api.ErrTree, "sizeof (void[2])": api.ErrTree,
		strings.Repeat("- ", 47) + "a": api.OK, strings.Repeat("- ", 48) + "a": api.ErrLong, "a" + strings.Repeat("+a", 47): api.OK, "a" + strings.Repeat("+a", 48): api.ErrLong, strings.Repeat("(", 5000) + "a" + strings.Repeat(")", 5000): api.OK,
		" (int[0])" + strings.Repeat("- ", 48) + "a": api.ErrTree,
	} {
		x, f := parse.Expr(s)
		same(t, s, all(f, len(x) > 0), all(api.Fault{Code: want}, want == api.OK))
	}
	// wide is a tree of 2 to the power of n names, and one node less between them; it is n + 1 deep.
	var wide func(n int) string
	wide = func(n int) string {
		if n == 0 {
			return "a"
		}
		return "(" + wide(n-1) + "," + wide(n-1) + ")"
	}
	x, f := parse.Expr("-" + wide(11))
	same(t, "4096 nodes", all(len(x), f), all(4096, api.Fault{}))
	x, f = parse.Expr("- -" + wide(11))
	same(t, "4097 nodes", all(len(x), f), all(0, api.Fault{Code: api.ErrLong}))
	x, f = parse.Expr("(int[0])" + wide(11) + "," + wide(3))
	same(t, "too many, and a wrong one", all(len(x), f), all(0, api.Fault{Code: api.ErrLong}))
}
