package parse_test

import (
	"strings"
	"testing"

	"catapult/api"
)

// The chapter's grammar, and a recogniser that goes over any grammar (Earley's): it tells the first token that no sentence has there.

// grammar is the chapter's, with what may be declared worked into it: a naked declarator is that of the base itself, an object one that of a pointer or an array, a called one that of a function; no token is a never, so what ends in one stands up to the token behind it.
const grammar = `
unit: { struct | globals | prototype | definition }
struct: "struct" name "{" { members } "}" ";"
members: some member { "," member } ";" | "void" vmember { "," vmember } ";"
member: naked | object | called never
vmember: object | called never

some: "char" | "short" [ "int" ] | "int" | "unsigned" [ "int" ] | "jmp_buf" | "struct" name
naked: name | "(" naked ")"
object: { "*" } placed | "*" { "*" } naked
placed: naked "[" count "]" { suffix } | "(" object ")" { suffix }
called: { "*" } callee
callee: naked "(" parameters ")" { suffix } | "(" called ")" { suffix }
suffix: "[" count "]" | "(" parameters ")"
parameters: [ "void" | parameter { "," parameter } ]
parameter: [ "volatile" ] ( some ( naked | object | called | [ abstract ] ) | "void" ( object | called | abstract ) )
abstract: { "*" } suffix { suffix } | { "*" } "(" abstract ")" { suffix } | "*" { "*" }
type: ( some | "void" ) [ abstract ]

globals: [ "volatile" ] ( some global { "," global } | "void" vglobal { "," vglobal } ) ";"
global: ( naked | object ) [ "=" value ] | called never
vglobal: object [ "=" value ] | called never
value: assignment | "{" assignment { "," assignment } [ "," ] "}"
prototype: ( some | "void" ) called ";"
definition: ( some | "void" ) defined block
defined: { "*" } ( naked "(" named ")" { suffix } | "(" defined ")" { suffix } )
named: [ "void" | namedparameter { "," namedparameter } ]
namedparameter: [ "volatile" ] ( some ( naked | object | called ) | "void" ( object | called ) )

block: "{" { declaration | statement } "}"
declaration: [ "volatile" ] ( some init { "," init } | "void" vinit { "," vinit } ) ";"
single: [ "volatile" ] ( some init | "void" vinit ) ";"
init: ( naked | object ) [ "=" assignment ] | called never
vinit: object [ "=" assignment ] | called never
statement: block | ";" | expression ";" | "if" "(" expression ")" statement [ "else" statement ] | "while" "(" expression ")" statement | "do" statement "while" "(" expression ")" ";" | "for" "(" ( single | [ expression ] ";" ) [ expression ] ";" [ expression ] ")" statement | "switch" "(" expression ")" statement | "case" conditional ":" statement | "default" ":" statement | "break" ";" | "continue" ";" | "return" [ expression ] ";"
alone: statement | single

expression: assignment { "," assignment }
assignment: unary ( "=" | "*=" | "/=" | "%=" | "+=" | "-=" | "<<=" | ">>=" | "&=" | "^=" | "|=" ) assignment | conditional
conditional: one [ "?" expression ":" conditional ]
one: both { "||" both }
both: or { "&&" or }
or: xor { "|" xor }
xor: and { "^" and }
and: equal { "&" equal }
equal: order { ( "==" | "!=" ) order }
order: shift { ( "<" | ">" | "<=" | ">=" ) shift }
shift: sum { ( "<<" | ">>" ) sum }
sum: product { ( "+" | "-" ) product }
product: cast { ( "*" | "/" | "%" ) cast }
cast: "(" type ")" cast | unary
unary: postfix | ( "++" | "--" ) unary | ( "&" | "*" | "-" | "~" | "!" ) cast | "sizeof" ( "(" type ")" | unary )
postfix: primary { "[" expression "]" | "(" [ assignment { "," assignment } ] ")" | "." name | "->" name | "++" | "--" }
primary: number | text | name | "(" expression ")"
`

// symbol is a terminal, from 0 on, or a rule, below 0.
type symbol int

// rules is a grammar: of each rule its alternatives.
type rules struct {
	names     map[string]symbol
	terminals map[string]symbol
	alts      [][][]symbol // of the rule -1 the first ones
	empty     []bool       // whether a rule may be of no token
}

// newRules reads a grammar.
func newRules(text string) *rules {
	g := &rules{names: map[string]symbol{}, terminals: map[string]symbol{}}
	for line := range strings.Lines(text) {
		head, body, ok := strings.Cut(strings.TrimSpace(line), ": ")
		if ok {
			words := strings.Fields(body)
			alts := g.choice(&words)
			if len(words) > 0 {
				panic(line)
			}
			g.alts[^g.rule(head)] = alts
		}
	}
	for name, x := range g.names {
		if len(g.alts[^x]) == 0 {
			panic("no rule " + name)
		}
	}
	g.findEmpty()
	return g
}

// rule is the rule of a name.
func (g *rules) rule(name string) symbol {
	x, ok := g.names[name]
	if !ok {
		x = g.more()
		g.names[name] = x
	}
	return x
}

// more is a new rule.
func (g *rules) more(alts ...[]symbol) symbol {
	g.alts = append(g.alts, alts)
	return symbol(-len(g.alts))
}

// terminal is the terminal of a text.
func (g *rules) terminal(word string) symbol {
	x, ok := g.terminals[word]
	if !ok {
		x = symbol(len(g.terminals))
		g.terminals[word] = x
	}
	return x
}

// choice reads alternatives, up to what shuts them.
func (g *rules) choice(words *[]string) [][]symbol {
	alts := [][]symbol{nil}
	last := func() *[]symbol { return &alts[len(alts)-1] }
	for len(*words) > 0 {
		word := (*words)[0]
		if strings.Contains(")]}", word) {
			break
		}
		*words = (*words)[1:]
		switch word {
		case "|":
			alts = append(alts, nil)
		case "(", "[", "{":
			within := g.more(g.choice(words)...)
			*words = (*words)[1:]
			if word == "[" {
				g.alts[^within] = append(g.alts[^within], nil)
			}
			if word == "{" {
				within = g.repeated(within)
			}
			*last() = append(*last(), within)
		case "name", "number", "count", "text", "never":
			*last() = append(*last(), g.terminal(word))
		default:
			if s, ok := strings.CutPrefix(word, `"`); ok {
				*last() = append(*last(), g.terminal(strings.TrimSuffix(s, `"`)))
			} else {
				*last() = append(*last(), g.rule(word))
			}
		}
	}
	return alts
}

// repeated is the rule of any number of a rule.
func (g *rules) repeated(of symbol) symbol {
	x := g.more(nil)
	g.alts[^x] = append(g.alts[^x], []symbol{x, of})
	return x
}

// findEmpty finds the rules that may be of no token.
func (g *rules) findEmpty() {
	g.empty = make([]bool, len(g.alts))
	for changed := true; changed; {
		changed = false
		for i, alts := range g.alts {
			for _, alt := range alts {
				may := true
				for _, x := range alt {
					may = may && x < 0 && g.empty[^x]
				}
				changed = changed || may && !g.empty[i]
				g.empty[i] = g.empty[i] || may
			}
		}
	}
}

// state is a part of a rule that has been read: its alternative, how far, and the place from which on.
type state struct {
	rule      symbol
	alt, upTo int
	from      int
}

// chart is the states that are possible behind each token that was read.
type chart struct {
	*rules
	start symbol
	sets  [][]state
}

// newChart begins to read a rule.
func (g *rules) newChart(start string) *chart {
	c := &chart{rules: g, start: g.names[start]}
	c.sets = [][]state{nil}
	var l closing
	l.predict(c, c.start, 0)
	c.close(&l)
	return c
}

// closing is a set of states that is being made.
type closing struct {
	states []state
	known  map[state]bool
	begun  map[symbol]bool
}

func (l *closing) add(x state) {
	if l.known == nil {
		l.known, l.begun = map[state]bool{}, map[symbol]bool{}
	}
	if !l.known[x] {
		l.known[x] = true
		l.states = append(l.states, x)
	}
}

// predict adds what begins a rule.
func (l *closing) predict(c *chart, rule symbol, at int) {
	if l.begun[rule] {
		return
	}
	for alt := range c.alts[^rule] {
		l.add(state{rule: rule, alt: alt, from: at})
	}
	l.begun[rule] = true
}

// next is what comes next in a state; false, if it is whole.
func (c *chart) next(x state) (symbol, bool) {
	alt := c.alts[^x.rule][x.alt]
	if x.upTo == len(alt) {
		return 0, false
	}
	return alt[x.upTo], true
}

// close makes the last set whole.
func (c *chart) close(l *closing) {
	at := len(c.sets) - 1
	for i := 0; i < len(l.states); i++ {
		x := l.states[i]
		s, more := c.next(x)
		switch {
		case !more:
			before := c.sets[x.from]
			if x.from == at {
				before = l.states
			}
			for _, y := range before {
				if s, more := c.next(y); more && s == x.rule {
					y.upTo++
					l.add(y)
				}
			}
		case s < 0:
			l.predict(c, s, at)
			// A rule of no token may have been whole ahead of this state.
			if c.empty[^s] {
				x.upTo++
				l.add(x)
			}
		}
	}
	c.sets[at] = l.states
}

// read reads a token that is each of some terminals; false, and nothing is read, if none can stand there.
func (c *chart) read(terminals ...string) bool {
	var l closing
	for _, word := range terminals {
		s, ok := c.terminals[word]
		if !ok {
			continue
		}
		for _, x := range c.sets[len(c.sets)-1] {
			if y, more := c.next(x); more && y == s {
				x.upTo++
				l.add(x)
			}
		}
	}
	if len(l.states) == 0 {
		return false
	}
	c.sets = append(c.sets, nil)
	c.close(&l)
	return true
}

// back takes the last token back.
func (c *chart) back() { c.sets = c.sets[:len(c.sets)-1] }

// isWhole tells whether what was read is one of the rule.
func (c *chart) isWhole() bool {
	for _, x := range c.sets[len(c.sets)-1] {
		if _, more := c.next(x); !more && x.rule == c.start && x.from == 0 {
			return true
		}
	}
	return false
}

// classes is the terminals that a token is.
func classes(x api.Token) []string {
	switch x.Kind {
	case api.TokName:
		return []string{"name"}
	case api.TokStr:
		return []string{"text"}
	case api.TokInt:
		if x.Text == "" && x.Int >= 0 {
			return []string{"number", "count"}
		}
		return []string{"number"}
	}
	return []string{x.Text}
}

// refused is the place of the first token that can not stand where it stands, by the grammar; false, if there is none.
func (g *rules) refused(start string, l []api.Token, length int) (int, bool) {
	c := g.newChart(start)
	for _, x := range l {
		if !c.read(classes(x)...) {
			return x.At, true
		}
	}
	return length, !c.isWhole()
}

// The recogniser itself: sentences that can be seen through.
func TestRecogniser(t *testing.T) {
	g := newRules("s: { a } \"x\" | \"(\" s \")\" | a never\na: [ \"y\" ] ( \"z\" | \"y\" \"y\" )\n")
	for s, want := range map[string]int{"x": -1, "z x": -1, "y z x": -1, "y y x": -1, "y y y x": -1, "y y y y z x": -1, "( ( z x ) )": -1, "": 0, "z": 1, "y x": 1, "y z y x": 3, "( x": 2, "x x": 1, "( x ) )": 3, "y y y z": 4, "w": 0} {
		var l []api.Token
		for i, word := range strings.Fields(s) {
			l = append(l, api.Token{Kind: api.TokMark, Text: word, At: i})
		}
		at, is := g.refused("s", l, len(l))
		if !is {
			at = -1
		}
		same(t, s, at, want)
	}
}
