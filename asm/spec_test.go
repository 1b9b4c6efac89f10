package asm_test

import (
	"fmt"
	"regexp"
	"slices"
	"strconv"
	"strings"
	"testing"

	"catapult/api"
	"catapult/asm"
	"catapult/isa"
)

// What the document's chapter says, reckoned apart from the program, in the plainest way: lines by regular expressions, places one by one.

// Forms of what the chapter's words name.
const (
	symbolForm   = `([A-Za-z_.$][A-Za-z0-9_.$]*)`
	registerForm = `(r(?:0|[1-9]|1[0-5]))`
	numberForm   = `(0|-?[1-9][0-9]{0,11})`
	addressForm  = `([A-Za-z_.$][A-Za-z0-9_.$]*(?:\+[1-9][0-9]{0,4})?)`
)

// noSymbols is words that are no symbols.
const noSymbols = ".text .data .global .align .word .byte .space la const high low " +
	"add sub mul div divu rem remu and or xor shl shr shru lt ltu eq ne addi andi ori xori shli shri shrui li lui ext " +
	"lw lh lb sw sh sb bz bnz blu jump call reg callr sys trap"

// plainSymbol tells whether a text is a symbol.
func plainSymbol(s string) bool {
	return symbolOf.MatchString(s) && len(s) <= 63 && !slices.Contains(strings.Fields(noSymbols), s) && !likeRegister.MatchString(s)
}

// plainAddress is a relocation of an address, and whether it is one.
func plainAddress(kind int, s string) (api.Reloc, bool) {
	name, more, _ := strings.Cut(s, "+")
	add, _ := strconv.Atoi(more)
	return api.Reloc{Kind: kind, Name: name, Add: add}, plainSymbol(name) && add <= 65535
}

// plain is an assembler in the plainest way: of both sections the bytes, and all the rest as it comes.
type plain struct {
	bytes   [2][]byte
	labels  []api.Label
	relocs  []api.Reloc
	globals [][2]string // the line's number, the name
	here    int
}

func (p *plain) size() int { return len(p.bytes[p.here]) }

func (p *plain) put(b ...byte) { p.bytes[p.here] = append(p.bytes[p.here], b...) }

// word puts a word, that waits, if a relocation has a kind; false, if it may not stand there.
func (p *plain) word(n int, r api.Reloc) bool {
	if r.Kind != 0 {
		if p.size()%4 != 0 {
			return false
		}
		r.Section, r.At = p.here, p.size()
		p.relocs = append(p.relocs, r)
	}
	p.put(byte(n), byte(n>>8), byte(n>>16), byte(n>>24))
	return true
}

// code puts an instruction's word; false, if it may not stand there.
func (p *plain) code(text string, r api.Reloc) bool {
	x, e := isa.Parse(text)
	if e != api.OK || p.here != 0 || p.size()%4 != 0 {
		return false
	}
	w, _ := isa.Encode(x)
	return p.word(int(w), r)
}

// rule is a form of lines, and what such a line does; it answers whether it may.
type rule struct {
	form *regexp.Regexp
	do   func(p *plain, m []string) bool
}

// waiting is the rule of an instruction that waits: its form ahead of the address, the word that is no part of it, the kind.
func waiting(form, half string, kind int) rule {
	return rule{whole(form + half + addressForm), func(p *plain, m []string) bool {
		r, ok := plainAddress(kind, m[len(m)-1])
		return ok && p.code(strings.TrimSuffix(m[0], half+m[len(m)-1])+"0", r)
	}}
}

func rules() []rule {
	r := registerForm
	return []rule{
		{whole(`\.text`), func(p *plain, m []string) bool { p.here = 0; return true }},
		{whole(`\.data`), func(p *plain, m []string) bool { p.here = 1; return true }},
		{whole(`\.align (1|2|4|8|16)`), func(p *plain, m []string) bool {
			n, _ := strconv.Atoi(m[1])
			for p.size()%n != 0 {
				p.put(0)
			}
			return true
		}},
		{whole(`\.word ` + numberForm), func(p *plain, m []string) bool {
			n, _ := strconv.Atoi(m[1])
			return n >= -2147483648 && n <= 4294967295 && p.word(n, api.Reloc{})
		}},
		{whole(`\.word ` + addressForm), func(p *plain, m []string) bool {
			r, ok := plainAddress(1, m[1])
			return ok && p.word(0, r)
		}},
		{whole(`\.byte((?: (?:0|[1-9][0-9]{0,2})){1,16})`), func(p *plain, m []string) bool {
			for _, s := range strings.Fields(m[1]) {
				n, _ := strconv.Atoi(s)
				if n > 255 {
					return false
				}
				p.put(byte(n))
			}
			return true
		}},
		{whole(`\.space (0|[1-9][0-9]{0,4})`), func(p *plain, m []string) bool {
			n, _ := strconv.Atoi(m[1])
			p.put(make([]byte, n)...)
			return n <= 65536
		}},
		waiting(`jump `, "", 4), waiting(`call `, "", 4), waiting(`bz `+r+` `, "", 5), waiting(`bnz `+r+` `, "", 5),
		waiting(`blu `+r+` `+r+` `, "", 5), waiting(`lui `+r+` `, "high ", 2), waiting(`ori `+r+` `+r+` `, "low ", 3),
		{whole(`la ` + r + ` ` + addressForm), func(p *plain, m []string) bool {
			h, ok := plainAddress(2, m[2])
			l, _ := plainAddress(3, m[2])
			return ok && p.code("lui "+m[1]+" 0", h) && p.code("ori "+m[1]+" "+m[1]+" 0", l)
		}},
		{whole(`const ` + r + ` ` + numberForm), func(p *plain, m []string) bool {
			n, _ := strconv.Atoi(m[2])
			if n < -2147483648 || n > 4294967295 {
				return false
			}
			if n >= -32768 && n <= 32767 {
				return p.code("li "+m[1]+" "+m[2], api.Reloc{})
			}
			n = (n + 1<<32) % (1 << 32)
			ok := p.code("lui "+m[1]+" "+strconv.Itoa(n/65536), api.Reloc{})
			return ok && (n%65536 == 0 || p.code("ori "+m[1]+" "+m[1]+" "+strconv.Itoa(n%65536), api.Reloc{}))
		}},
	}
}

// whole is a form that a whole text must have.
func whole(form string) *regexp.Regexp { return regexp.MustCompile(`\A` + form + `\z`) }

// The forms as they are asked of lines, made once.
var (
	symbolOf     = whole(symbolForm)
	likeRegister = whole(`r[0-9]+`)
	labelLine    = whole(symbolForm + `:`)
	globalLine   = whole(`\.global ` + symbolForm)
	blanks       = regexp.MustCompile(`[ \t]+`)
	allRules     = rules()
)

// line does what a line says, and is what is wrong with it.
func (p *plain) line(i int, s string) api.Errno {
	if s == "" {
		return api.OK
	}
	if m := labelLine.FindStringSubmatch(s); m != nil && plainSymbol(m[1]) {
		for _, l := range p.labels {
			if l.Name == m[1] {
				return api.ErrLabel
			}
		}
		p.labels = append(p.labels, api.Label{Name: m[1], Section: p.here, At: p.size()})
		return api.OK
	}
	if m := globalLine.FindStringSubmatch(s); m != nil && plainSymbol(m[1]) {
		p.globals = append(p.globals, [2]string{strconv.Itoa(i), m[1]})
		return api.OK
	}
	ok := false
	if i := slices.IndexFunc(allRules, func(r rule) bool { return r.form.MatchString(s) }); i >= 0 {
		ok = allRules[i].do(p, allRules[i].form.FindStringSubmatch(s))
	} else {
		ok = p.code(s, api.Reloc{})
	}
	if !ok {
		return api.ErrLine
	}
	return api.OK
}

// clean is what a line says.
func clean(line string) string {
	line, _, _ = strings.Cut(line, ";")
	return strings.Trim(blanks.ReplaceAllString(line, " "), " ")
}

// plainAssemble is the object of a text, or its first fault, but for what is too long.
func plainAssemble(s string) (api.Object, api.Fault) {
	p := &plain{}
	for i, line := range strings.Split(s, "\n") {
		if e := p.line(i, clean(line)); e != api.OK {
			return api.Object{}, api.Fault{At: i, Code: e}
		}
	}
	for _, g := range p.globals {
		i := slices.IndexFunc(p.labels, func(l api.Label) bool { return l.Name == g[1] })
		if i < 0 {
			at, _ := strconv.Atoi(g[0])
			return api.Object{}, api.Fault{At: at, Code: api.ErrNone}
		}
		p.labels[i].Global = true
	}
	slices.SortStableFunc(p.labels, func(a, b api.Label) int { return (a.Section-b.Section)<<30 + a.At - b.At })
	slices.SortStableFunc(p.relocs, func(a, b api.Reloc) int { return (a.Section-b.Section)<<30 + a.At - b.At })
	return api.Object{Text: p.bytes[0], Data: p.bytes[1], Labels: p.labels, Relocs: p.relocs}, api.Fault{}
}

// wordIn is the word of bytes from a place on.
func wordIn(b []byte, at int) uint32 {
	w := uint32(0)
	for i := range 4 {
		w += uint32(b[at+i]) << (8 * i)
	}
	return w
}

// plainRight tells whether an object is right, but for what is too long.
func plainRight(o api.Object) bool {
	sections := [][]byte{o.Text, o.Data}
	for i, l := range o.Labels {
		if l.Section != 0 && l.Section != 1 || l.At < 0 || l.At > len(sections[l.Section]) || !plainSymbol(l.Name) {
			return false
		}
		for _, m := range o.Labels[:i] {
			if m.Name == l.Name || m.Section > l.Section || m.Section == l.Section && m.At > l.At {
				return false
			}
		}
	}
	for i, r := range o.Relocs {
		if r.Section != 0 && r.Section != 1 || r.At < 0 || r.At > len(sections[r.Section])-4 || r.At%4 != 0 {
			return false
		}
		if !plainSymbol(r.Name) || r.Add < 0 || r.Add > 65535 || !plainFits(r, wordIn(sections[r.Section], r.At)) {
			return false
		}
		for _, q := range o.Relocs[:i] {
			if q.Section > r.Section || q.Section == r.Section && q.At >= r.At {
				return false
			}
		}
	}
	return true
}

// plainFits tells whether a relocation may be at a word.
func plainFits(r api.Reloc, w uint32) bool {
	if r.Kind == 1 {
		return w == 0
	}
	x, e := isa.Decode(w)
	if e != api.OK || r.Section != 0 || x.Imm != 0 {
		return false
	}
	ops := map[int][]int{2: {26}, 3: {20}, 4: {37, 38}, 5: {34, 35, 36}}
	return slices.Contains(ops[r.Kind], x.Op)
}

// plainPrint is a right object's text, but for what is too long.
func plainPrint(o api.Object) (string, api.Errno) {
	for _, r := range o.Relocs {
		for _, l := range o.Labels {
			if l.Section == r.Section && l.At > r.At && l.At < r.At+4 {
				return "", api.ErrState
			}
		}
	}
	return ".text\n" + plainSection(o, 0, o.Text) + ".data\n" + plainSection(o, 1, o.Data), api.OK
}

func plainSection(o api.Object, section int, b []byte) string {
	text := ""
	for at := 0; at <= len(b); {
		for _, l := range o.Labels {
			if l.Section == section && l.At == at && l.Global {
				text += ".global " + l.Name + "\n"
			}
			if l.Section == section && l.At == at {
				text += l.Name + ":\n"
			}
		}
		if at == len(b) {
			break
		}
		line, n := plainPlace(o, section, b, at)
		text, at = text+line+"\n", at+n
	}
	return text
}

// plainPlace is the line of what stands at a place, and how many bytes that is.
func plainPlace(o api.Object, section int, b []byte, at int) (string, int) {
	address, kind := "", 0
	for _, r := range o.Relocs {
		if r.Section == section && r.At == at {
			address, kind = r.Name, r.Kind
			if r.Add > 0 {
				address += "+" + strconv.Itoa(r.Add)
			}
		}
	}
	cut := slices.ContainsFunc(o.Labels, func(l api.Label) bool { return l.Section == section && l.At > at && l.At < at+4 })
	if section == 0 && at%4 == 0 && at+4 <= len(b) && !cut {
		if x, e := isa.Decode(wordIn(b, at)); e == api.OK {
			s, _ := isa.Print(x)
			if kind != 0 {
				ahead := map[int]string{2: "high ", 3: "low "}[kind]
				s = s[:len(s)-1] + ahead + address
			}
			return s, 4
		}
	}
	if kind == 1 {
		return ".word " + address, 4
	}
	return ".byte " + strconv.Itoa(int(b[at])), 1
}

// plainJoin is right objects made one, but for what is too long, and labels that stand twice.
func plainJoin(l ...api.Object) api.Object {
	var o api.Object
	for i, x := range l {
		for i > 0 && len(o.Text)%16 != 0 {
			o.Text = append(o.Text, 0)
		}
		for i > 0 && len(o.Data)%16 != 0 {
			o.Data = append(o.Data, 0)
		}
		base := []int{len(o.Text), len(o.Data)}
		for _, l := range x.Labels {
			l.At += base[l.Section]
			o.Labels = append(o.Labels, l)
		}
		for _, r := range x.Relocs {
			r.At += base[r.Section]
			o.Relocs = append(o.Relocs, r)
		}
		o.Text, o.Data = append(o.Text, x.Text...), append(o.Data, x.Data...)
	}
	slices.SortStableFunc(o.Labels, func(a, b api.Label) int { return a.Section - b.Section })
	slices.SortStableFunc(o.Relocs, func(a, b api.Reloc) int { return a.Section - b.Section })
	return o
}

// said is an object in a row, its names in quotes.
func said(o api.Object) string {
	s := fmt.Sprintf("text %x data %x", o.Text, o.Data)
	for _, l := range o.Labels {
		s += fmt.Sprintf(" %q %d %d %v", l.Name, l.Section, l.At, l.Global)
	}
	for _, r := range o.Relocs {
		s += fmt.Sprintf(" %d %d %d %d %q", r.Section, r.At, r.Kind, r.Add, r.Name)
	}
	return s
}

// copied is an object that shares nothing with another one.
func copied(o api.Object) api.Object {
	return api.Object{Text: slices.Clone(o.Text), Data: slices.Clone(o.Data), Labels: slices.Clone(o.Labels), Relocs: slices.Clone(o.Relocs)}
}

// same fails where an answer is another one than what is wanted (an empty list is as none).
func same(t *testing.T, what string, got, want any) {
	t.Helper()
	if g, w := fmt.Sprint(got), fmt.Sprint(want); g != w {
		t.Errorf("%.300s: %.600s, want %.600s", what, g, w)
	}
}

// all is what a call answers, in a row.
func all(l ...any) string { return fmt.Sprint(l...) }

// made is the object of lines that are right.
func made(t *testing.T, lines ...string) api.Object {
	t.Helper()
	o, f := asm.Assemble(strings.Join(lines, "\n"))
	if f != (api.Fault{}) {
		t.Fatalf("Assemble of %.300q: %v", lines, f)
	}
	return o
}

// faulty fails where a text is assembled, or has another fault.
func faulty(t *testing.T, what, text string, want api.Fault) {
	t.Helper()
	o, f := asm.Assemble(text)
	same(t, "the fault of "+what, f, want)
	same(t, "beside the fault of "+what, said(o), said(api.Object{}))
}

// codeOf is the bytes of instructions' texts.
func codeOf(t *testing.T, lines ...string) []byte {
	t.Helper()
	var l []byte
	for _, s := range lines {
		x, e := isa.Parse(s)
		b, f := isa.Code(x)
		if e != api.OK || f != (api.Fault{}) {
			t.Fatalf("%.400s: %v, %v", s, e, f)
		}
		l = append(l, b...)
	}
	return l
}

// chance is numbers that look as if they came by chance, and are always the same.
type chance uint32

func (c *chance) next() int {
	*c = *c*1664525 + 1013904223
	return int(*c >> 8)
}

func (c *chance) below(n int) int { return c.next() % n }

// of is one of its arguments.
func of[T any](c *chance, l ...T) T { return l[c.below(len(l))] }

// object is a right object by chance: words that wait and others, bytes, labels at any places, within words too.
func (c *chance) object(t *testing.T) api.Object {
	t.Helper()
	o := api.Object{}
	for range c.below(12) {
		line := of(c, "jump 0", "call 0", "bz r3 0", "bnz r1 0", "blu r1 r2 0", "lui r10 0", "ori r9 r8 0", "=0 0 0 0", "jump -7", "ext r1 r2 8", "reg r14", "trap 65535", "=1 2 3 4", "=255 255 255 255", "=0 0 0 37")
		at := len(o.Text)
		o.Text = append(o.Text, mixed(t, line)...)
		kind := map[string]int{"jump": 4, "call": 4, "bz": 5, "bnz": 5, "blu": 5, "lui": 2, "ori": 3, "=0": 1}[strings.Fields(line)[0]]
		if kind != 0 && strings.HasSuffix(line, " 0") && c.below(2) == 0 {
			o.Relocs = append(o.Relocs, api.Reloc{At: at, Kind: kind, Name: of(c, "a", "f.main", "x0", "$"), Add: of(c, 0, 0, 1, 10, 65535)})
		}
	}
	o.Text = append(o.Text, make([]byte, c.below(4))...)
	for range c.below(8) {
		if c.below(2) == 0 {
			o.Relocs = append(o.Relocs, api.Reloc{Section: 1, At: len(o.Data), Kind: 1, Name: of(c, "a", "g"), Add: of(c, 0, 0, 4)})
			o.Data = append(o.Data, 0, 0, 0, 0)
		} else {
			o.Data = append(o.Data, byte(c.next()), byte(c.next()), 0, byte(c.below(3)))
		}
	}
	o.Data = append(o.Data, make([]byte, c.below(5))...)
	for section, b := range [][]byte{o.Text, o.Data} {
		var places []int
		for range c.below(5) {
			place := c.below(len(b) + 1)
			if c.below(3) > 0 {
				place -= place % 4
			}
			places = append(places, place)
		}
		slices.Sort(places)
		for i, place := range places {
			o.Labels = append(o.Labels, api.Label{Name: fmt.Sprintf("%s%d%d", of(c, "z", "a", "m."), section, i), Section: section, At: place, Global: c.below(2) == 0})
		}
	}
	return o
}

// spoil changes something of an object, which may be right then or not.
func (c *chance) spoil(o *api.Object) {
	n := of(c, -1, 0, 1, 2, 3, 4, 5, 6, 7, 8, 12, 16, 65535, 65536)
	name := of(c, "a", "z00", "b", "add", "r1", "", ".text")
	if len(o.Labels) > 0 && c.below(2) == 0 {
		l := &o.Labels[c.below(len(o.Labels))]
		switch c.below(4) {
		case 0:
			l.Name = name
		case 1:
			l.Section = of(c, 0, 1, 2, -1)
		case 2:
			l.At = n
		default:
			*l = o.Labels[c.below(len(o.Labels))]
		}
		return
	}
	if len(o.Relocs) > 0 {
		r := &o.Relocs[c.below(len(o.Relocs))]
		switch c.below(6) {
		case 0:
			r.Name = name
		case 1:
			r.Section = of(c, 0, 1, 2, -1)
		case 2:
			r.At = n
		case 3:
			r.Add = n
		case 4:
			r.Kind = n
		default:
			*r = o.Relocs[c.below(len(o.Relocs))]
		}
	}
}
