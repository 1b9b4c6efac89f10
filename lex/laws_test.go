package lex_test

import (
	"math"
	"strings"
	"testing"

	"catapult/api"
	"catapult/lex"
)

// token is a token by chance that may be.
func (c *chance) token() api.Token {
	switch c.below(7) {
	case 0:
		return name(of(c, "a", "_", "Z9", "x_y", "u", "intx", strings.Repeat("n", 31)))
	case 1:
		return key(c.word(plainKeys))
	case 2:
		return number(of(c, 0, 1, 9, 10, 127, 128, 255, 65536, 1<<31-1, -1, -128, -10, c.below(384)-128))
	case 3:
		return unsigned(of(c, 0, 1, 31, 1<<31-1, 1<<31, 1<<32-1, c.below(1<<24)))
	case 4:
		b := make([]byte, c.below(9))
		for i := range b {
			b[i] = byte(c.below(256))
		}
		return str(of(c, string(b), string(b), "\x000", "\\x41", `"`, "'", "//", "/*", "*/", "\n0", strings.Repeat("\xff", 1000)))
	}
	return mark(c.word(plainMarks))
}

// row is tokens by chance, no two texts in a row.
func (c *chance) row() []api.Token {
	var l []api.Token
	for range c.below(30) {
		x := c.token()
		if n := len(l); n == 0 || l[n-1].Kind != api.TokStr || x.Kind != api.TokStr {
			l = append(l, x)
		}
	}
	return l
}

// rightText is a text by chance that has tokens.
func (c *chance) rightText() string {
	for {
		s := c.text()
		if _, f := lex.Tokens(s); f.Code == api.OK {
			return s
		}
	}
}

// 7.5: tokens, laid and read, are as they were; and laid again, the text is as it was.
func TestThereAndBack(t *testing.T) {
	for seed := range 5000 {
		c := chance(seed*613 + 1)
		l := c.row()
		s := laid(t, l)
		back := tokens(t, s)
		same(t, s, rowOf(back), said(l))
		same(t, s, laid(t, back), s)
	}
}

// 7.5: what was read is laid, and read as it was.
func TestReadIsLaid(t *testing.T) {
	for seed := range 3000 {
		c := chance(seed*389 + 2)
		l := tokens(t, c.rightText())
		same(t, "read, laid, read", rowOf(tokens(t, laid(t, l))), rowOf(l))
	}
}

// 7.5: each keyword, mark and size at the edges beside each other one.
func TestAnyTwoAreReadApart(t *testing.T) {
	l := []api.Token{name("a"), name("x41"), name("u"), number(0), number(7), number(-1), unsigned(1), unsigned(1 << 31), str("s"), key("int")}
	for _, m := range strings.Fields(plainMarks) {
		l = append(l, mark(m))
	}
	for _, a := range l {
		for _, b := range l {
			if a.Kind != api.TokStr || b.Kind != api.TokStr {
				two := []api.Token{a, b}
				same(t, said(two), rowOf(tokens(t, laid(t, two))), said(two))
			}
		}
	}
}

// 7.6: blank between tokens, more of it, changes nothing but places; ahead of all and behind all too.
func TestMoreBlank(t *testing.T) {
	for seed := range 3000 {
		c := chance(seed*947 + 3)
		s := c.rightText()
		want := rowOf(tokens(t, s))
		l, ends, _ := plainTokens(s)
		var more, other strings.Builder
		from := 0
		for i, x := range l {
			more.WriteString(" " + c.blank() + s[from:x.At] + " " + c.blank() + s[x.At:ends[i]])
			other.WriteString(of(&c, "\n", " ", "\t/* */ ", " //\n", "\v\f\r", " //*\n") + s[x.At:ends[i]])
			from = ends[i]
		}
		more.WriteString(" " + c.blank() + s[from:])
		same(t, more.String(), rowOf(tokens(t, more.String())), want)
		same(t, other.String(), rowOf(tokens(t, other.String())), want)
	}
}

// 7.7: places rise, and what stands between tokens is blank alone: each token stands from its place up to blank or the next one.
func TestPlaces(t *testing.T) {
	for seed := range 3000 {
		c := chance(seed*4099 + 4)
		s := c.rightText()
		l := tokens(t, s)
		_, ends, _ := plainTokens(s)
		from := 0
		for i, x := range l {
			if x.At < from || i > 0 && x.At <= l[i-1].At {
				t.Fatalf("%.400q: %s", s, said(l))
			}
			same(t, s, plainBlank.ReplaceAllString(s[from:x.At], ""), "")
			same(t, s, said(tokens(t, s[x.At:ends[i]])), row(unplaced(l)[i]))
			from = ends[i]
		}
		same(t, s, plainBlank.ReplaceAllString(s[from:], ""), "")
	}
}

// R4: what is handed in is not written to, nor what stands behind it; what is answered may be written over.
func TestOwnMemory(t *testing.T) {
	for seed := range 300 {
		c := chance(seed*5003 + 5)
		l := c.row()
		handed := append(make([]api.Token, 0, len(l)+20), l...)
		before := said(handed[:len(l)+20])
		s := laid(t, handed)
		same(t, "handed in", said(handed[:len(l)+20]), before)
		answer := tokens(t, s)
		was := said(answer)
		other := tokens(t, s)
		answer = answer[:cap(answer)]
		for i := range answer {
			answer[i] = name("wiped")
		}
		same(t, "another answer", said(other), was)
		for i := range handed {
			handed[i] = name("wiped")
		}
		same(t, "when it is written over", rowOf(tokens(t, s)), said(l))
	}
}

// P1, R1, R3, R5: every call answers, whatever it is handed, the same in any order, and an error alone.
func TestAnswersHangOnArgumentsAlone(t *testing.T) {
	const calls = 2000
	ask := func(seed int) string {
		c := chance(seed*7 + 6)
		b := make([]byte, c.below(60))
		for i := range b {
			b[i] = byte(of(&c, c.below(256), int("'\"\\/*\n x0u"[c.below(10)])))
		}
		s := string(b)
		l, f := lex.Tokens(s)
		if f.Code != api.OK && l != nil || f.Code == api.OK && f.At != 0 {
			t.Fatalf("%q: %v beside %v", s, said(l), f)
		}
		x := api.Token{Kind: c.below(8) - 1, At: c.next(), Int: of(&c, math.MinInt, -129, -128, -1, 0, 1, 1<<31, 1<<32, math.MaxInt), Text: of(&c, s, "", "u", "a", "int", ";")}
		laidOut, e := lex.Lay([]api.Token{x, x})
		if e != api.OK && laidOut != "" {
			t.Fatalf("%v: %q beside %v", x, laidOut, e)
		}
		line, through, e2 := lex.Line(s, of(&c, math.MinInt, -1, 0, 5, len(s), math.MaxInt))
		return all(said(l), f, laidOut, e, line, through, e2, lex.IsName(s), lex.IsKey(s), lex.Quote(s), lex.Char(byte(seed)))
	}
	var there []string
	for seed := range calls {
		there = append(there, ask(seed))
	}
	for seed := calls - 1; seed >= 0; seed-- {
		if again := ask(seed); again != there[seed] {
			t.Fatalf("call %d: %.400s, was %.400s", seed, again, there[seed])
		}
	}
}
