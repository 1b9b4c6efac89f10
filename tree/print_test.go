package tree_test

import (
	"slices"
	"strings"
	"testing"

	"catapult/api"
	"catapult/lex"
	"catapult/tree"
	"catapult/types"
)

// expr is the tree of an expression's text.
func expr(t *testing.T, s string) api.Tree {
	t.Helper()
	x, ok := read(s, (*reader).expression)
	if !ok {
		t.Fatalf("%q is not read", s)
	}
	return x
}

// item is the tree of a statement's or declaration's text.
func item(t *testing.T, s string) api.Tree {
	t.Helper()
	x, ok := read(s, (*reader).item)
	if !ok {
		t.Fatalf("%q is not read", s)
	}
	return x
}

// 9.4: the chapter's first example, of trees that are written out.
func TestExamples(t *testing.T) {
	a, b, c := name("a"), name("b"), name("c")
	for want, x := range map[string]api.Tree{
		"a * ( b + c )":         node(api.NBinary, "*", a, node(api.NBinary, "+", b, c)),
		"a * b + c":             node(api.NBinary, "+", node(api.NBinary, "*", a, b), c),
		"- - a":                 node(api.NUnary, "-", node(api.NUnary, "-", a)),
		"( a = b ) = c":         node(api.NAssign, "=", node(api.NAssign, "=", a, b), c),
		"a = b = c":             node(api.NAssign, "=", a, node(api.NAssign, "=", b, c)),
		"sizeof ( a + b )":      node(api.NSizeof, "", node(api.NBinary, "+", a, b)),
		"( char ) ( a + 1 )":    typed(api.NCast, "c", node(api.NBinary, "+", a, number(1, "i"))),
		"a + b - c":             node(api.NBinary, "-", node(api.NBinary, "+", a, b), c),
		"a - ( b - c )":         node(api.NBinary, "-", a, node(api.NBinary, "-", b, c)),
		"a , b , c":             node(api.NComma, "", node(api.NComma, "", a, b), c),
		"a , ( b , c )":         node(api.NComma, "", a, node(api.NComma, "", b, c)),
		"f ( a , b ) [ c ]":     node(api.NIndex, "", node(api.NCall, "", name("f"), a, b), c),
		"a ? b : c ? a : b":     node(api.NCond, "", a, b, node(api.NCond, "", c, a, b)),
		"( a ? b : c ) ? a : b": node(api.NCond, "", node(api.NCond, "", a, b, c), a, b),
		"& * a -> b . c ++":     node(api.NUnary, "&", node(api.NUnary, "*", node(api.NPost, "++", node(api.NDot, "c", node(api.NArrow, "b", a))))),
	} {
		same(t, want, printed(t, x), want)
		same(t, want, expr(t, want), unplaced(x))
	}
}

// 9.4: brackets, at each level and one looser.
func TestBrackets(t *testing.T) {
	for s, want := range map[string]string{
		"(a)": "a", "((a))+(b)": "a + b", "(a*b)+c": "a * b + c", "a+(b*c)": "a + b * c", "(a+b)*c": "( a + b ) * c", "a*(b*c)": "a * ( b * c )", "(a*b)/c%d": "a * b / c % d", "a/(b%c)": "a / ( b % c )",
		"a-(b+c)": "a - ( b + c )", "(a-b)+c": "a - b + c", "a<<(b+c)": "a << b + c", "(a<<b)+c": "( a << b ) + c", "a<<(b>>c)": "a << ( b >> c )", "(a<b)<c": "a < b < c", "a<(b>=c)": "a < ( b >= c )", "a<(b<<c)": "a < b << c", "(a<b)<<c": "( a < b ) << c",
		"(a==b)!=c": "a == b != c", "a==(b!=c)": "a == ( b != c )", "a==(b<c)": "a == b < c", "(a==b)<c": "( a == b ) < c", "a&(b==c)": "a & b == c", "(a&b)==c": "( a & b ) == c", "a&(b&c)": "a & ( b & c )", "a^(b&c)": "a ^ b & c", "(a^b)&c": "( a ^ b ) & c",
		"a|(b^c)": "a | b ^ c", "(a|b)^c": "( a | b ) ^ c", "a&&(b|c)": "a && b | c", "(a&&b)|c": "( a && b ) | c", "a||(b&&c)": "a || b && c", "(a||b)&&c": "( a || b ) && c", "a||(b||c)": "a || ( b || c )", "(a||b)||c": "a || b || c",
		"(a||b)?c:d": "a || b ? c : d", "(a=b)?c:d": "( a = b ) ? c : d", "(a,b)?c:d": "( a , b ) ? c : d", "a?(b,c):d": "a ? b , c : d", "a?(b=c):d": "a ? b = c : d", "a?b:(c=d)": "a ? b : ( c = d )", "a?b:(c,d)": "a ? b : ( c , d )", "a?(b?c:d):e": "a ? b ? c : d : e", "a?b:(c?d:e)": "a ? b : c ? d : e", "(a?b:c)||d": "( a ? b : c ) || d", "a||(b?c:d)": "a || ( b ? c : d )",
		"a=(b?c:d)": "a = b ? c : d", "(a?b:c)=d": "( a ? b : c ) = d", "a=(b,c)": "a = ( b , c )", "(a,b)=c": "( a , b ) = c", "(a=b),(c=d)": "a = b , c = d", "a,(b,c)": "a , ( b , c )", "(a+b)=c": "( a + b ) = c", "(-a)=b": "- a = b", "(*a)+=b": "* a += b", "((char)a)=b": "( ( char ) a ) = b", "(-(char)a)=b": "- ( char ) a = b", "(sizeof a)=b": "sizeof a = b", "(++a)=b": "++ a = b", "(a++)=b": "a ++ = b", "a+(b=c)": "a + ( b = c )", "-(a=b)": "- ( a = b )",
		"(char)(a)": "( char ) a", "(char)((int)a)": "( char ) ( int ) a", "(char)(-a)": "( char ) - a", "(char)(a*b)": "( char ) ( a * b )", "((char)a)*b": "( char ) a * b", "(char)(sizeof a)": "( char ) sizeof a", "(char)(a++)": "( char ) a ++", "((char)a)++": "( ( char ) a ) ++", "(char)(a?b:c)": "( char ) ( a ? b : c )",
		"-((char)a)": "- ( char ) a", "++((char)a)": "++ ( ( char ) a )", "++(-a)": "++ - a", "--(--a)": "-- -- a", "-(--a)": "- -- a", "-(a--)": "- a --", "(-a)--": "( - a ) --", "!(a&&b)": "! ( a && b )", "&(a[b])": "& a [ b ]", "(&a)[b]": "( & a ) [ b ]", "*(a++)": "* a ++", "(*a)++": "( * a ) ++", "(*a)(b)": "( * a ) ( b )", "~(!a)": "~ ! a", "++(a*b)": "++ ( a * b )",
		"sizeof(a)": "sizeof a", "sizeof((char)a)": "sizeof ( ( char ) a )", "sizeof(sizeof(a))": "sizeof sizeof a", "sizeof(-a)": "sizeof - a", "sizeof(-(char)a)": "sizeof - ( char ) a", "sizeof(a[b])": "sizeof a [ b ]", "(sizeof a)[b]": "( sizeof a ) [ b ]", "sizeof(int)": "sizeof ( int )", "(sizeof(int))[a]": "( sizeof ( int ) ) [ a ]", "sizeof(int)*2": "sizeof ( int ) * 2", "sizeof(sizeof(int))": "sizeof sizeof ( int )", "(char)(sizeof(int))": "( char ) sizeof ( int )", "sizeof((a).b)": "sizeof a . b", "sizeof(((char)a)[b])": "sizeof ( ( char ) a ) [ b ]",
		"f()": "f ( )", "f((a,b),c)": "f ( ( a , b ) , c )", "f((a=b),(c?d:e))": "f ( a = b , c ? d : e )", "(f)((a))": "f ( a )", "(f(a))(b)": "f ( a ) ( b )", "(a=f)(b)": "( a = f ) ( b )", "(a?f:g)()": "( a ? f : g ) ( )", "a[(b,c)]": "a [ b , c ]", "a[(b=c)]": "a [ b = c ]", "(a,b)[c]": "( a , b ) [ c ]", "(a+b)[c]": "( a + b ) [ c ]", "(a.b).c": "a . b . c", "(*a).b": "( * a ) . b", "*(a.b)": "* a . b", "(a=b).c": "( a = b ) . c", "(-a)->b": "( - a ) -> b", "(a++)++": "a ++ ++", "(a++)[b]": "a ++ [ b ]", "1[a]": "1 [ a ]", "\"s\"[0]": "\"s\" [ 0 ]", "(5).a": "5 . a",
	} {
		x := expr(t, s)
		same(t, s, printed(t, x), want)
		same(t, s, plainLayout(x, (*reader).expression), want)
	}
}

// 9.4: each kind of expression as each part of each kind, and each mark of these.
func TestEachPartPrinted(t *testing.T) {
	var small []api.Tree
	for _, r := range rows {
		if r.letter != "e" {
			continue
		}
		for _, mark := range marksOf(r.kind) {
			x := least(r.kind)
			if mark != "" {
				x[len(x)-1].Text = mark
			}
			small = append(small, x)
		}
	}
	for _, outer := range small {
		x, _ := nest(outer)
		for i := range x.parts {
			for _, inner := range small {
				y := x
				part, _ := nest(inner)
				y.parts = slices.Clone(x.parts)
				y.parts[i] = part
				made := y.flat()
				same(t, all(made), printed(t, made), plainLayout(made, (*reader).expression))
			}
		}
	}
}

// 9.4: numbers, characters, texts, names.
func TestAtoms(t *testing.T) {
	for want, x := range map[string]api.Tree{
		"0": number(0, "i"), "0u": number(0, "u"), "2147483647": number(2147483647, "i"), "2147483647u": number(2147483647, "u"), "2147483648": number(2147483648, "u"), "4294967295": number(4294967295, "u"),
		`'\xff'`: number(-1, "i"), `'\x80'`: number(-128, "i"), "- 1": node(api.NUnary, "-", number(1, "i")), `- '\xff'`: node(api.NUnary, "-", number(-1, "i")), "97": number(97, "i"),
		`""`: node(api.NString, ""), `"a\n\"\\\x00\xff'%"`: node(api.NString, "a\n\"\\\x00\xff'%"), `"a  b"`: node(api.NString, "a  b"), "_x9": name("_x9"), `"a" + "b"`: node(api.NBinary, "+", node(api.NString, "a"), node(api.NString, "b")),
	} {
		same(t, want, printed(t, x), want)
	}
}

// 9.4: types in casts and sizeof, and declarations.
func TestPrintedTypes(t *testing.T) {
	for _, k := range known {
		bare := strings.Join(strings.Fields(strings.Replace(k[1], "@", "", 1)), " ")
		same(t, k[0], printed(t, typed(api.NCast, k[0], name("x"))), "( "+bare+" ) x")
		same(t, k[0], printed(t, typed(api.NSizeT, k[0])), "sizeof ( "+bare+" )")
		if !isVariable(api.Type(k[0])) {
			continue
		}
		for _, s := range []string{"x", "t", "f"} {
			d := api.Node{Kind: api.NDecl, Text: s, Type: api.Type(k[0])}
			declared := strings.Replace(k[1], "@", s, 1)
			same(t, k[0], lines(t, function(whole(d))), "void f ( void ) { "+declared+" ; }\n")
			d.Int = 1
			same(t, k[0], lines(t, function(whole(d, name("y")))), "void f ( void ) { volatile "+declared+" = y ; }\n")
			u := api.Unit{Structs: structs(), Globals: []api.Global{{Var: api.Var{Name: s, Type: api.Type(k[0])}}, {Var: api.Var{Name: s, Type: api.Type(k[0]), Volatile: true}}}}
			same(t, k[0], strings.SplitAfter(lines(t, u), "\n")[2:], []string{declared + " ;\n", "volatile " + declared + " ;\n", ""})
		}
	}
}

// 9.4: each statement; what is read is laid out as it stands here.
func TestStatements(t *testing.T) {
	for s, want := range map[string]string{
		";": "{ }", "{}": "{ }", "{;;}": "{ { } { } }", "a;": "a ;", "(a,b);": "a , b ;", "return;": "return ;", "return(a);": "return a ;", "return a,b;": "return a , b ;", "break;": "break ;", "continue;": "continue ;",
		"if(a)b;": "if ( a ) b ;", "if(a,b)b;else c;": "if ( a , b ) b ; else c ;", "if(a)b;else if(c)d;else e;": "if ( a ) b ; else if ( c ) d ; else e ;", "if(a){if(b);}else c;": "if ( a ) { if ( b ) { } } else c ;", "if(a)if(b)c;else d;": "if ( a ) if ( b ) c ; else d ;", "if((a=b))c;": "if ( a = b ) c ;",
		"while(a)b;": "while ( a ) b ;", "while(a,b){c;}": "while ( a , b ) { c ; }", "do a;while(b);": "do a ; while ( b ) ;", "do{a;}while((b,c));": "do { a ; } while ( b , c ) ;", "do do a;while(b);while(c);": "do do a ; while ( b ) ; while ( c ) ;",
		"for(;;);": "for ( ; ; ) { }", "for(a;b;c)d;": "for ( a ; b ; c ) d ;", "for(a,b;;)c;": "for ( a , b ; ; ) c ;", "for(;a,b;)c;": "for ( ; a , b ; ) c ;", "for(;;a,b)c;": "for ( ; ; a , b ) c ;", "for(int i;;);": "for ( int i ; ; ) { }", "for(volatile int i=0;i<9;i++)f(i);": "for ( volatile int i = 0 ; i < 9 ; i ++ ) f ( i ) ;",
		"switch(a,b){case 1:b;case 2:case(3):default:c;break;}": "switch ( a , b ) { case 1 : b ; case 2 : case 3 : default : c ; break ; }", "switch(a)case 1:;": "switch ( a ) case 1 : { }",
		"case a?b:c:d;": "case a ? b : c : d ;", "case(a,b):c;": "case ( a , b ) : c ;", "case(a=b):c;": "case ( a = b ) : c ;", "case a||b:c;": "case a || b : c ;", "default:;": "default : { }",
		"int a;": "int a ;", "int a=b;": "int a = b ;", "int a=(b,c);": "int a = ( b , c ) ;", "int a=(b=c);": "int a = b = c ;", "volatile char*a=b?c:d;": "volatile char * a = b ? c : d ;", "{int a;a;int b=a;}": "{ int a ; a ; int b = a ; }",
		"for(int i=(a,b);;)break;": "for ( int i = ( a , b ) ; ; ) break ;",
	} {
		x := item(t, s)
		same(t, s, lines(t, function(x)), "void f ( void ) { "+want+" }\n")
		same(t, s, plainLayout(x, (*reader).item), want)
	}
}

// 9.4: globals.
func TestGlobals(t *testing.T) {
	one, two, text, comma := number(1, "i"), number(2, "i"), node(api.NString, "s"), node(api.NComma, "", name("a"), name("b"))
	line := func(code, want string, init ...api.Tree) {
		t.Helper()
		g := variable(code, init...)
		same(t, code, lines(t, api.Unit{Structs: structs(), Globals: []api.Global{g}}), lines(t, api.Unit{Structs: structs()})+want+"\n")
		g.Var.Volatile = true
		same(t, code, lines(t, api.Unit{Structs: structs(), Globals: []api.Global{g}}), lines(t, api.Unit{Structs: structs()})+"volatile "+want+"\n")
	}
	line("i", "int g ;")
	line("i", "int g = 1 ;", one)
	line("i", "int g = { 1 , 2 } ;", one, two)
	line("i", "int g = ( a , b ) ;", comma)
	line("i", "int g = { ( a , b ) , 1 } ;", comma, one)
	line("i", "int g = a = 1 ;", node(api.NAssign, "=", name("a"), one))
	line("i", "int g = \"s\" ;", text)
	line("pc", "char * g = \"s\" ;", text)
	line("pf()v", "void ( * g ) ( void ) = f ;", name("f"))
	line("pa2:c", "char ( * g ) [ 2 ] = 1 ;", one)
	line("pSt;", "struct t * g = 1 ;", one)
	line("j", "jmp_buf g ;")
	line("j", "jmp_buf g = 1 ;", one)
	line("a3:i", "int g [ 3 ] ;")
	line("a3:i", "int g [ 3 ] = { 1 } ;", one)
	line("a3:i", "int g [ 3 ] = { 1 , 2 , a = 1 , ( a , b ) } ;", one, two, node(api.NAssign, "=", name("a"), one), comma)
	line("a3:i", "int g [ 3 ] = \"s\" ;", text)
	line("a4:pc", "char * g [ 4 ] = { \"s\" , \"s\" } ;", text, text)
	line("a4:pc", "char * g [ 4 ] = { & \"s\" } ;", node(api.NUnary, "&", text))
	line("St;", "struct t g = { 1 } ;", one)
	line("St;", "struct t g = \"s\" ;", text)
	line("St;", "struct t g = { 1 , \"s\" } ;", one, text)
	line("a2:St;", "struct t g [ 2 ] = { 1 } ;", one)
	same(t, "an empty list", lines(t, api.Unit{Globals: []api.Global{{Var: api.Var{Name: "a", Type: "i"}, Init: []api.Tree{}}}}), "int a ;\n")
}

// 9.4: structs and functions, and the order of all.
func TestLines(t *testing.T) {
	want := "struct t { char a ; struct t * t ; } ;\nstruct f { void ( * f ) ( struct f * ) ; short b [ 2 ] [ 3 ] ; jmp_buf j ; } ;\n"
	same(t, "structs", lines(t, api.Unit{Structs: structs()}), want)
	same(t, "none", lines(t, api.Unit{}), "")
	params := []api.Var{{Name: "a", Type: "i", Volatile: true}, {Name: "f", Type: "pf(i,pc)i"}, {Name: "t", Type: "pSt;"}}
	u := api.Unit{Structs: structs(), Globals: []api.Global{variable("i"), variable("St;")}}
	add := func(s, code, line string, body api.Tree, params ...api.Var) {
		u.Funcs = append(u.Funcs, api.Func{Name: s, Type: api.Type(code), Params: params, Body: body})
		want += line + "\n"
	}
	want += "int g ;\nstruct t g ;\n"
	add("f", "f()v", "void f ( void ) ;", nil)
	add("f", "f()v", "void f ( void ) { }", empty())
	add("f", "f()v", "void f ( void ) { return ; }", node(api.NBlock, "", node(api.NReturn, "")))
	add("main", "f()i", "int main ( void ) { return 3 ; }", node(api.NBlock, "", node(api.NReturn, "", number(3, "i"))))
	add("g", "f(i,pf(i,pc)i,pSt;)pc", "char * g ( volatile int a , int ( * f ) ( int , char * ) , struct t * t ) { }", empty(), params...)
	add("g", "f(i,i)u", "unsigned g ( int , int x ) ;", nil, api.Var{Type: "i"}, api.Var{Name: "x", Type: "i"})
	add("t", "f()pSt;", "struct t * t ( void ) ;", nil)
	add("f", "f(i)pSf;", "struct f * f ( int f ) ;", nil, api.Var{Name: "f", Type: "i"})
	add("f", "f(u)pf(pSf;)v", "void ( * f ( unsigned ) ) ( struct f * ) ;", nil, api.Var{Type: "u"})
	add("f", "f()pf(i)v", "void ( * f ( void ) ) ( int ) { }", empty())
	add("f", "f()pa2:c", "char ( * f ( void ) ) [ 2 ] ;", nil)
	add("f", "f(c,s)ppf()pSt;", "struct t * ( * * f ( char a , short b ) ) ( void ) ;", nil, api.Var{Name: "a", Type: "c"}, api.Var{Name: "b", Type: "s"})
	add("f", "f()pf()pf(pSf;)pSf;", "struct f * ( * ( * f ( void ) ) ( void ) ) ( struct f * ) ;", nil)
	add("f", "f(pf(pSf;)pf()v)v", "void f ( void ( * ( * ) ( struct f * ) ) ( void ) ) ;", nil, api.Var{Type: "pf(pSf;)pf()v"})
	same(t, "functions", lines(t, u), want)
}

// 9.4: PrintExpr tells what is no expression, and what is not right; Print what is wrong with a unit.
func TestNotPrinted(t *testing.T) {
	for want, l := range map[api.Errno][]api.Tree{
		api.ErrTree:  {nil, name("1"), append(name("a"), name("b")...), node(api.NExpr, "", nothing())},
		api.ErrLong:  {chain(48), make(api.Tree, 4097), node(api.NExpr, "", chain(47))},
		api.ErrShape: {empty(), nothing(), least(api.NExpr), least(api.NDecl), least(api.NReturn), least(api.NFor), least(api.NBreak), node(api.NExpr, "", chain(46))},
	} {
		for _, x := range l {
			s, e := tree.PrintExpr(x)
			same(t, all(x), all(s, e), all("", want))
		}
	}
	for _, u := range []api.Unit{{Funcs: make([]api.Func, 257)}, withGlobal(variable("v")), withFunction(api.Func{Name: "f", Type: "f()v", Body: chain(48)}), {Structs: make([]api.Struct, 1)}} {
		s, f := tree.Print(u)
		same(t, all(len(u.Funcs)), all(s, f, f == api.Fault{}), all("", plainUnit(u), false))
	}
}

// filled is an expression whose text has so many bytes, more than 50000.
func filled(bytes int) api.Tree {
	text := func(n int) api.Tree { return node(api.NString, strings.Repeat("s", n)) }
	x := name("f")
	parts := []api.Tree{x}
	for range 7 {
		parts = append(parts, text(4096))
	}
	one := node(api.NCall, "", parts...)
	// Two such calls, and a third one that takes the rest.
	rest := bytes - 2*len("f ( ) , ") - 2*len(strings.Repeat(`"" , `, 6)+`""`) - 2*7*4096 - 2
	var third []api.Tree
	for rest > 4098+5 {
		third = append(third, text(2048))
		rest -= 2048 + 5
	}
	third = append(third, text(rest-len("g ( \"\" )")))
	return node(api.NComma, "", node(api.NComma, "", one, one), node(api.NCall, "", append([]api.Tree{name("g")}, third...)...))
}

// 9.4: a text has at most 65536 bytes.
func TestLongest(t *testing.T) {
	for _, n := range []int{65534, 65535, 65536, 65537, 65538} {
		x := filled(n)
		s, e := tree.PrintExpr(x)
		if n <= 65536 {
			same(t, "long", all(len(s), e), all(n, api.OK))
			same(t, "long", expr(t, s), x)
		} else {
			same(t, "too long", all(s, e), all("", api.ErrLong))
		}
		more := len("int g = (  ) ;\n")
		u := api.Unit{Globals: []api.Global{variable("i", filled(n-more))}}
		s, f := tree.Print(u)
		if n <= 65536 {
			same(t, "long", all(len(s), f), all(n, api.Fault{}))
		} else {
			same(t, "too long", all(s, f), all("", api.Fault{Code: api.ErrLong}))
		}
		s, f = tree.Print(api.Unit{Globals: []api.Global{variable("i", filled(n-more-len("int h ;\n"))), {Var: api.Var{Name: "h", Type: "i"}}}})
		if n <= 65536 {
			same(t, "two lines", all(len(s), f), all(n, api.Fault{}))
		} else {
			same(t, "two lines too long", all(s, f), all("", api.Fault{Code: api.ErrLong}))
		}
	}
	var calls []api.Tree
	for range 3 {
		calls = append(calls, filled(60000))
	}
	s, e := tree.PrintExpr(node(api.NCond, "", calls...))
	same(t, "three times too long", all(s, e), all("", api.ErrLong))
}

// many is a function's type of so many levels of functions of eight, of pointers, and its declaration without a name.
func many(levels, pointers int) (string, string) {
	if levels == 0 {
		return strings.Repeat("p", pointers) + "u", "unsigned" + strings.Repeat(" *", pointers)
	}
	code, text := many(levels-1, pointers)
	join := func(s, with string) string { return strings.Join(slices.Repeat([]string{s}, 8), with) }
	return "pf(" + join(code, ",") + ")v", "void ( * ) ( " + join(text, " , ") + " )"
}

// 9.4: a text that is not too long may have more tokens than lex reads at a time, and so may a type; a type's text may be longer than any text.
func TestManyTokens(t *testing.T) {
	x, want := typed(api.NCast, strings.Repeat("p", 47)+"i", name("a")), "( int "+strings.Repeat("* ", 47)+") a"
	for range 3 {
		x = node(api.NCall, "", append([]api.Tree{name("f")}, slices.Repeat([]api.Tree{x}, 7)...)...)
		want = "f ( " + strings.Join(slices.Repeat([]string{want}, 7), " , ") + " )"
	}
	s := printed(t, x)
	_, f := lex.Tokens(s)
	same(t, "casts", all(s == want, len(s) < 65536, f.Code), all(true, true, api.ErrLong))
	code, text := many(3, 40)
	declared, _ := types.Declare(api.Type(code), "")
	_, f = lex.Tokens(declared)
	same(t, "a type of many tokens", all(len(text) < 65536, f.Code), all(true, api.ErrLong))
	same(t, "a cast", printed(t, typed(api.NCast, code, name("a"))), "( "+text+" ) a")
	same(t, "a size", printed(t, typed(api.NSizeT, code)), "sizeof ( "+text+" )")
	u := api.Unit{Globals: []api.Global{variable(code)}}
	same(t, "a global", lines(t, u), strings.Replace(text, "( * )", "( * g )", 1)+" ;\n")
	u = api.Unit{Funcs: []api.Func{{Name: "f", Type: api.Type("f()" + code)}, {Name: "f", Type: "f()v"}}}
	same(t, "an answer", lines(t, u), strings.Replace(text, "( * )", "( * f ( void ) )", 1)+" ;\nvoid f ( void ) ;\n")
	for _, pointers := range []int{2, 12} {
		code, text = many(4, pointers)
		declared, _ = types.Declare(api.Type(code), "")
		same(t, "a type that is too long", all(len(code) < 65536, len(text) > 65536, len(declared) > 65536), all(true, true, pointers == 12))
		for _, x := range []api.Tree{typed(api.NCast, code, name("a")), typed(api.NSizeT, code), node(api.NCall, "", slices.Repeat([]api.Tree{typed(api.NSizeT, code)}, 4)...)} {
			s, e := tree.PrintExpr(x)
			same(t, "too long", all(s, e), all("", api.ErrLong))
			s, f = tree.Print(function(node(api.NExpr, "", x)))
			same(t, "too long", all(s, f), all("", api.Fault{Code: api.ErrLong}))
		}
		for _, u := range []api.Unit{{Globals: []api.Global{variable(code), variable(code)}}, {Funcs: []api.Func{{Name: "f", Type: api.Type("f()" + code)}}}, {Structs: []api.Struct{{Name: "t", Members: []api.Member{{Name: "a", Type: api.Type(code)}}}}}, function(typed(api.NDecl, code))} {
			if len(u.Funcs) == 1 && len(u.Funcs[0].Body) > 0 {
				u.Funcs[0].Body[0].Text = "a"
			}
			s, f = tree.Print(u)
			same(t, "too long", all(s, f), all("", api.Fault{Code: api.ErrLong}))
		}
	}
}

// 9.4: expressions and statements by chance have just the brackets that they need.
func TestPrintByChance(t *testing.T) {
	for seed := range 3000 {
		c := chance(seed*577 + 7)
		x := c.placed(c.expression(2 + c.below(4)))
		if len(x) < 60 {
			same(t, all(x), printed(t, x), plainLayout(x, (*reader).expression))
		}
		x = c.placed(of(&c, c.statement(2+c.below(2)), c.declaration(3)))
		if len(x) < 60 {
			same(t, all(x), lines(t, function(x)), "void f ( void ) { "+plainLayout(x, (*reader).item)+" }\n")
		}
	}
}

// 9.4: what is printed is read as it was, units too, and is laid out as lex lays it.
func TestPrintedThereAndBack(t *testing.T) {
	for seed := range 2000 {
		c := chance(seed*2003 + 8)
		x := c.placed(c.expression(2 + c.below(5)))
		s := printed(t, x)
		same(t, s, expr(t, s), unplaced(x))
		l, _ := lex.Tokens(s)
		laid, e := lex.Lay(l)
		same(t, s, all(laid, e), all(s, api.OK))
		u := c.unit()
		s = lines(t, u)
		back, ok := read(s, (*reader).unit)
		for i := range u.Globals {
			u.Globals[i].At = 0
			for j := range u.Globals[i].Init {
				u.Globals[i].Init[j] = unplaced(u.Globals[i].Init[j])
			}
		}
		for i := range u.Funcs {
			u.Funcs[i].At, u.Funcs[i].Body = 0, unplaced(u.Funcs[i].Body)
		}
		same(t, s, all(back, ok), all(u, true))
		same(t, s, strings.Count(s, "\n"), len(u.Structs)+len(u.Globals)+len(u.Funcs))
		for line := range strings.Lines(s) {
			l, _ := lex.Tokens(line)
			laid, e := lex.Lay(l)
			same(t, line, all(laid+"\n", e), all(line, api.OK))
		}
	}
}
