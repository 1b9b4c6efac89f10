package parse_test

import (
	"strings"
	"testing"

	"catapult/api"
	"catapult/lex"
	"catapult/parse"
)

// tokensOf is a text's tokens.
func tokensOf(t *testing.T, s string) []api.Token {
	t.Helper()
	l, f := lex.Tokens(s)
	same(t, s, f, api.Fault{})
	return l
}

// faultOf is what a call tells of a text, by the rule that it reads.
func faultOf(rule, s string) api.Fault {
	var f api.Fault
	switch rule {
	case "unit":
		_, f = parse.Unit(s)
	case "expression":
		_, f = parse.Expr(s)
	case "alone":
		_, f = parse.Stmt(s)
	case "type":
		_, f = parse.Type(s)
	}
	return f
}

// 10.1, 10.3: all texts of a few tokens: the first one that can not stand where it stands is told, by the grammar.
func TestEveryShortText(t *testing.T) {
	g := newRules(grammar)
	for _, x := range []struct {
		rule, ahead, words string
		most               int
	}{
		{"type", "", "int void volatile struct short a * ( ) [ 2 ] ,", 6},
		{"unit", "", "int void volatile a * ( ) [ 2 ] , ; { } =", 6},
		{"unit", "int a ( ", "int void volatile a * ( ) [ 2 ] , ; {", 6},
		{"unit", "struct a { ", "int void struct a * ( ) [ 2 ] , ; }", 6},
		{"unit", "int a = ", "a { } , ( ) ; = int", 7},
		{"expression", "", "a 1 ( ) int * - ++ = ? : , sizeof [ ] . &&", 5},
		{"expression", "a = ", "a ( ) int ++ = += ? : ,", 6},
		{"expression", "sizeof ", "a ( ) int * - ++ [ ] 2", 6},
		{"alone", "", "a ; { } if else while do for ( ) int case : default return break = ,", 5},
		{"alone", "if ( a ) ", "a ; { } if else ( ) do while", 7},
		{"alone", "for ( ", "a ; ( ) int void volatile = , ) {", 6},
		{"alone", "{ ", "a ; { } int void volatile ( ) * , = case : 1", 6},
	} {
		c := g.newChart(x.rule)
		for _, token := range tokensOf(t, x.ahead) {
			c.read(classes(token)...)
		}
		n := 0
		var next func(s string, left int)
		next = func(s string, left int) {
			n++
			f := faultOf(x.rule, s)
			if want := (api.Fault{At: len(s), Code: api.ErrSyntax}); !c.isWhole() && f != want || c.isWhole() && f.Code == api.ErrSyntax {
				t.Fatalf("%s %q: %v, whole %v", x.rule, s, f, c.isWhole())
			}
			if left == 0 {
				return
			}
			for word := range strings.FieldsSeq(x.words) {
				token := tokensOf(t, word)[0]
				if c.read(classes(token)...) {
					next(s+word+" ", left-1)
					c.back()
					continue
				}
				same(t, s+word, faultOf(x.rule, s+word+" ;"), api.Fault{At: len(s), Code: api.ErrSyntax})
			}
		}
		next(x.ahead, x.most)
		t.Logf("%s %s: %d texts", x.rule, x.ahead, n)
	}
}

// refusedTexts is texts, one a line, by the rule by which they are read: a @ stands ahead of the token that can not stand there, or of the end, where one lacks.
var refusedTexts = map[string]string{
	"unit": `
@;
int@
int @;
int a@
int a @int b;
int a,@ ;
int a, @int b;
@a;
@1;
@}
@{ }
@"a"
@volatil a;
@static int a;
volatile @a;
volatile @volatile int a;
volatile@
int @volatile a;
int @int a;
int @short a;
int @if;
int @jmp_buf;
int @3;
char @int a;
short @short a;
short int @int a;
unsigned @char a;
int *@;
int * @volatile a;
int a; @}
int a; @b;
int a; @;
int a /* b */@
int a  @
@if (a) ;
struct@
struct @;
struct @int
struct @{ int a; };
struct s@
struct s @;
struct s @[2];
struct s @1;
struct s { int a; }@
struct s { int a; } @a;
struct s { int a; @
struct s { int a@ }
struct s { int a;@; };
struct s { @a; };
struct s { @; };
struct s { int @; };
struct s { int a,@ };
struct s { int a @= 1; };
struct s { @volatile int a; };
struct s { struct t @{ int a; } b; };
struct s { int a; }; @;
struct s a @{ int b; };
volatile struct s @{ int a; };
struct s { void a@; };
struct s { void a@, *b; };
struct s { void *a, b@; };
struct s { void (a)@; };
struct s { int f()@; };
struct s { int *f(int)@, a; };
struct s { int a, f()@; };
struct s { void f()@; };
int a = @;
int a =@
int a = @, b;
int a = @int;
int a = 1@
int a = b @c;
int a = b, c @1;
int a = (b, c@;
int a = 1,@ ;
int a @+= b;
int a @{ }
int a = {@};
int a = {@, 1};
int a = {1@;
int a = {1 @2};
int a = {1, @, };
int a = {1,@, 2};
int a = {@{1}};
int a = {1, @{2}};
int a = {1, 2} @3;
int a[2] = {1, 2@
int a[2] = {1, 2,@
int a[@];
int a[@b];
int a[@2u];
int a[@2147483648];
int a[@-1];
int a[@'\xff'];
int a[@"a"];
int a[@(2)];
int a[@
int a[2@
int a[2@, 3];
int a[2 @+ 1];
int a[2] @2;
int @[2];
int (@);
int (@int);
int (@void);
int (@[2]);
int (@;
int (a@;
int (a@, b);
int (*a@;
int (*@)(int);
int a(@b);
int a(@2);
int a(@*b);
int a(@(int));
int a(int@
int f(int,@);
int f(@, int);
int f(@a, b);
int f(@;
int f(void@
int f(int a@ b);
int f(int a@;
int f(int a[@b]);
int f(int @2);
int f(int @if);
int f(int a @= 1);
int f(int @{});
int f(int a @{}
int f(int *a @*b);
int f(int (a)@ b);
int f(int (*)@ b);
int f(int [2]@ b);
int f(int [@]);
int f(int (a@, b));
int f(int (a @b));
int f(int (*@;
int f(int (@;));
int f(int (*a)(@*));
int f(int (* @volatile a));
int f(volatile@);
int f(volatile @a);
int f(volatile @volatile int a);
int f(int @volatile a);
int f(struct@);
int f(struct s @{ int a; } b);
void a@;
void a@, b;
void (a)@;
void a@ = 1;
void a@ { }
volatile void a@;
void *a, b@;
void a[2], b@;
void a@
int a, f()@;
int a, f(void)@ {}
int a, f(void)@ = 1;
int a = 1, f()@;
int a, *f(int)@, b;
int f()@, a;
int f()@, g();
int f()@ = 1;
int f() @a;
int f()@
int *f()@, *a;
int (*f())(int)@, a;
void f()@, g();
volatile int f()@;
volatile int f(int a)@ {}
volatile int a, f()@;
volatile void f()@;
int (*a)(int) @{ }
int (*a[2])(int) @{ }
int f(void@, int);
int f(int, void@);
int f(int, void@
int f(void a@);
int f(void (a)@);
int f(volatile void@);
int f(volatile void@, int);
int f(int a, void b@, int c);
int f(int (*a)(void@, int));
int f(void (*)(void b@));
int f(int (*)(volatile void@));
int a = (int (*)(int, void@))b;
int f(int) @{}
int f(int a, int *) @{ }
int f(int a, int (*)(int b)) @{ }
int f(int (a), volatile int) @{ }
int (*f(int))(int a) @{ }
int f(int *(*)) @{
int f(int a) {} @;
int f(int a) { @
int f(int a) { } @}
int f(int a) @int a; { }
int f(int a) @if (a) ;
int f(int a) { int g()@; }
int f(int a) { int g()@ { } }
int f(int a) { void b@; }
`,
	"expression": `
@
  @
@;
@=
@+a
* @= b
@? a
@, a
@) a
@{ a }
@if
@int
@int a
@void
@volatile
a @b
a @;
a @: b
a@)
a@]
a @1
a @"b"
a @'b'
a @~b
a @!b
a @sizeof b
a @{
1 @2
1 @a
"a" @1
a +@
a + @*= b
a = @= b
a =@
a == @= b
a < @< b
a < @; b
a & @
a && @|| b
a * @/ b
a + b @= c
a * b @+= c
(int)a @= b
(int)-a @= b
(int)(a) @= b
a ? b : c @= d
a ? b : (int)c @= d
a = b + c @= d
a = b ? c : d @= e
a = (int)b @= c
a || b @= c
sizeof a + b @= c
-a * b @= c
a ? b@
a ? b @;
a ? @: c
a ? b : @
a ? b : c, d @: e
a ? b : c @: d
a ? b, @: c
a, @
a, @, b
(a@
(@
(@)
(@;
(a, @)
(a @b)
((a)@
a[@]
a[@
a[1@
a[1, @]
a[1@;]
a[1@)
a(@,)
a(@
a(b@
a(b, @)
a(b @c)
a(b, c@;
a(b@]
a(@int)
a.@
a.@1
a.@int
a.@(b)
a.@.b
a->@
a->@->b
a->@"b"
a++ @b
a ++ @1
-@
-@;
++@
++@;
& @&& a
&@
! @= a
++(@int)a
--(@char *)a
(int)@
(int)@;
(int)@int
(int@
(int @a)b
(int @1)b
(int@, char)a
(@volatile int)a
(int @volatile)a
(int *@a)b
(int (@a))b
(int (*)@a)b
(int[@])a
(int[2@)a
(int[@-2])a
(int (*)(@*))a
(int (*)(int@
(struct@)a
(struct @int)a
(struct s @{ })a
(short @short)a
(unsigned @char)a
sizeof@
sizeof @;
sizeof @int
sizeof @= a
sizeof (int@
sizeof (int)@a
sizeof (int) @(a)
sizeof (int)@[1]
sizeof (int)@.a
sizeof (int)@->a
sizeof (int)@++
sizeof (int) @--
sizeof (int) @1
sizeof (int) @~a
sizeof (int @a)
sizeof (int@, char)
sizeof (a@
sizeof (@)
sizeof (@volatile int)
sizeof (struct s) @{}
`,
	"alone": `
@
@}
@)
@else ;
@: a;
a@
a @b;
a @: ;
a; @b;
a; @;
; @;
{@
{ a@ }
{ a; @
{ a @b; }
{ } @}
{ } @;
{ @)
{ @else ; }
if@
if @a
if @;
if (@)
if (@int a) ;
if (a@
if (a @;
if (a @b) ;
if (a) @
if (a) @else
if (a) @}
if (a) ; else @
if (a) ; else ; @else ;
if (a) b; @c;
if (a) @int b;
if (a) @volatile int b;
if (a) ; else @int b;
if (a) { } @; else ;
if (a) if (b) ; else ; else ; @else ;
while@
while @a
while (@) ;
while (a) @
while (a) @int b;
while (a @b) ;
while (a) ; @;
do@
do @int a; while (b);
do while (a);@
do ;@
do ; @a
do ; @; while (a);
do ; while@
do ; while @a
do ; while (@);
do ; while (a)@
do ; while (a) @{
do ; while (a); @;
do a@ while (b);
do { } while @a
for@
for @;
for (@
for (@) ;
for (@{ } ;;) ;
for (@if (a) ;;) ;
for (;@) ;
for (;;@
for (;;@; ;
for (;;) @
for (;;) @int a;
for (;;) ; @;
for (a@) ;
for (a @b;;) ;
for (a;@) ;
for (a; b@) ;
for (a; b; c@ ;
for (a; b; c@; ) ;
for (int@;;) ;
for (int a@) ;
for (int a@, b;;) ;
for (int a = 1@, b = 2;;) ;
for (int a; @int b;) ;
for (int a @{;;) ;
for (int a = @{1};;) ;
for (; @int a;) ;
for (;; @int a) ;
for (void a@;;) ;
for (int f()@;;) ;
for (volatile @a;;) ;
switch@
switch @a
switch (@) ;
switch (a) @
switch (a) @int b;
switch (a) ; @;
case@
case @:
case a@
case a @;
case a: @
case a: @}
case a: @int b;
case a: ; @;
case a @= b: ;
case a@, b: ;
case a @b: ;
case a ? b@;
case a ? b : c@;
case a ? b : c @= d: ;
case @int: ;
case @case a: ;
{ case a: @}
default@
default @a: ;
default : @
default: @int a;
default: @}
default: ; @;
break@
break @a;
break @1;
break; @;
continue@
continue @a;
continue; @;
return@
return @int;
return @return;
return @{
return @, a;
return @=;
return a@
return a @b;
return (@);
return; @a;
return a @: ;
int@
int @;
int a@
int a @b;
int a@, b;
int a = 1@, b;
int a = @{1};
int a = @;
int a =@
int a @+= 1;
int a @++;
int a; @int b;
int a; @a;
int a[@b];
int a[2@
int a(@b);
int (a@ b);
{ int a, @; }
{ int a, @int b; }
{ int a = 1, b = @= 2; }
{ int a = 1, b @+= 2; }
{ int a = @{1, 2}; }
{ int a@ }
{ int @}
{ volatile @a; }
{ volatile int f()@; }
{ int f()@; }
{ int f()@, a; }
{ int a, f()@; }
{ int f()@ = 1; }
{ int f(int)@ { } }
{ void a@; }
{ void a@, *b; }
{ void *a, b@; }
{ struct s @{ int a; }; }
{ struct @}
volatile@
volatile @a;
volatile void a@;
int f()@;
int f(int a)@ { }
int f()@
void a@;
void (a)@;
void a@ = 1;
void a@, b;
void a@
struct s @;
struct s @{ int a; } b;
`,
	"type": `
@
@a
@1
@;
@*
@)
@(int)
@volatile int
int @a
int @;
int @int
int @)
int@, char
int *@a
int * @volatile
int (@a)
int (@1)
int (*@a)
int (*@
int (*@;
int (@
int (@;
int (*)@a
int (*) @*
int (*)@)
int [@]
int [@a]
int [2@
int [2] @a
int [@2u]
int [@-1]
int [2] (@*)
int [2] @*
int ([2]@
int ([2]@*)
int (((int)@;
int ((*@;
int (@2)
int ()@a
int ()@)
int (int@
int (int, @
int (int,@)
int (int @1)
int (int a@ b)
int (int a, @b)
int (void@, int)
int (int, void@)
int (void a@)
int (void (a)@)
int (volatile void@)
int (*)(@*)
int (*)(void@, void)
int (int (*)(void@, void))
struct@
struct @{
struct s @{
struct s @a
struct @int
short @short
short int @int
unsigned @short
void @a
`,
}

// 10.1, 10.3: texts of all kinds, and where they are refused, with more blank about them, too.
func TestSyntax(t *testing.T) {
	for rule, texts := range refusedTexts {
		for _, s := range strings.Split(strings.Trim(texts, "\n"), "\n") {
			before, behind, isMarked := strings.Cut(s, "@")
			if !isMarked {
				t.Fatalf("%q has no mark", s)
			}
			text := before + behind
			at := len(text) - len(strings.TrimLeft(behind, " "))
			same(t, rule+" "+s, faultOf(rule, text), api.Fault{At: at, Code: api.ErrSyntax})
			if at == len(text) {
				at += len(" // a\n")
			}
			same(t, rule+" "+s, faultOf(rule, "/**/"+text+" // a\n"), api.Fault{At: len("/**/") + at, Code: api.ErrSyntax})
		}
	}
}

// 10.1: what lex tells of a text is told first, wherever it stands.
func TestFaultsOfTokens(t *testing.T) {
	for s, want := range map[string]api.Fault{
		"= ; @": {At: 4, Code: api.ErrToken}, "int a; /*": {At: 7, Code: api.ErrEnd}, "; 'ab'": {At: 2, Code: api.ErrEscape}, "a 08": {At: 2, Code: api.ErrNumber}, "} \"a": {At: 2, Code: api.ErrEnd}, strings.Repeat("n", 32): {Code: api.ErrLong},
		strings.Repeat(" ", 1<<16) + "a": {Code: api.ErrLong}, strings.Repeat("(", 1<<14+1): {At: 1 << 14, Code: api.ErrLong},
	} {
		for _, rule := range []string{"unit", "expression", "alone", "type"} {
			same(t, rule+" "+s, faultOf(rule, s), want)
		}
	}
	s := strings.Repeat("(", 1<<14)
	same(t, "the most tokens", all(faultOf("expression", s), faultOf("unit", s)), all(api.Fault{At: 1 << 14, Code: api.ErrSyntax}, api.Fault{Code: api.ErrSyntax}))
}

// spoiled is words of which some are left out, put in, turned about, written over; or the first of them.
func (c *chance) spoiled(l []string) []string {
	l = append([]string{}, l...)
	for range 1 + c.below(2) {
		word := of(c, "int", "void", "volatile", "struct", "short", "a", "b", "1", "7u", "\"s\"", "(", ")", "[", "]", "{", "}", ",", ";", "*", "-", "&", "++", "=", "+=", "==", "?", ":", ".", "->", "sizeof", "if", "else", "while", "do", "for", "switch", "case", "default", "break", "return")
		i, j := c.below(len(l)+1), c.below(len(l)+1)
		switch what := c.below(6); {
		case what == 0 && i < len(l):
			l = append(l[:i], l[i+1:]...)
		case what == 1:
			l = append(l[:i], append([]string{word}, l[i:]...)...)
		case what == 2 && i < len(l):
			l[i] = word
		case what == 3 && i < len(l) && j < len(l):
			l[i], l[j] = l[j], l[i]
		case what == 4:
			l = l[:i]
		case i < j:
			l = append(l[:i], append(append([]string{}, l[i:j]...), l[i:]...)...)
		}
	}
	return l
}

// 10.1, 10.6: texts that are spoiled are refused where the grammar says so, however they are laid out.
func TestSpoiledTexts(t *testing.T) {
	rules := newRules(grammar)
	refused := 0
	for seed := range 6000 {
		g := newGrower(seed, 0)
		rule := []string{"unit", "unit", "alone", "expression", "type"}[seed%5]
		switch rule {
		case "unit":
			g.unit(3)
		case "alone":
			g.statement(4, false)
		case "expression":
			g.expression(0, 5)
		case "type":
			v := g.variable("", anything, 3)
			g.tokens(g.spelled(v.base)...)
			g.declarator(v)
		}
		words := strings.Fields(g.text.String())
		if len(words) > 250 {
			continue
		}
		words = g.spoiled(words)
		s := strings.Join(words, " ")
		l := tokensOf(t, s)
		// Texts in a row are one token.
		if len(l) < len(words) {
			continue
		}
		at, is := rules.refused(rule, l, len(s))
		if f := faultOf(rule, s); is && f != (api.Fault{At: at, Code: api.ErrSyntax}) || !is && f.Code == api.ErrSyntax {
			t.Fatalf("%s %s: %v, by the grammar %d %v", rule, s, f, at, is)
		}
		if is {
			refused++
		}
		// Laid out otherwise, the same token is refused.
		laid := newGrower(0, seed+1)
		places := map[int]int{}
		for i, x := range l {
			places[x.At] = laid.token(words[i])
		}
		places[len(s)] = laid.text.Len()
		f := faultOf(rule, s)
		if f.Code != api.OK && (f.Code == api.ErrSyntax || f.At > 0) {
			f.At = places[f.At]
		}
		same(t, s, faultOf(rule, laid.text.String()), f)
	}
	if refused < 3000 {
		t.Errorf("%d texts alone are refused", refused)
	}
}
