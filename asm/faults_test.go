package asm_test

import (
	"strconv"
	"strings"
	"testing"

	"catapult/api"
	"catapult/asm"
)

// wrongLines is lines that are none, wherever they stand.
func wrongLines() []string {
	return []string{
		"a :", ":", "a::", "a: b:", "a: li r0 0", "1a:", "add:", "la:", "const:", "high:", "low:", "r0:", "r15:", "r99:", "r007:", "a+1:", "a-b:", "ä:", "a\r:", ".text:", ".byte:", longest + "x:",
		".text x", ".data 0", ".Text", ".bss", "text", "data", ".te xt", ".", "$ 1",
		".global", ".global a b", ".global 1", ".global add", ".global r1", ".global a:", ".global a+1", ".global .word", "global a",
		".align", ".align 0", ".align 3", ".align 5", ".align 12", ".align 32", ".align -4", ".align 04", ".align 4 4", ".align a", ".align 18446744073709551620",
		".word", ".word 1 2", ".word -2147483649", ".word 4294967296", ".word -0", ".word 00", ".word 01", ".word +1", ".word - 1", ".word 0x10", ".word 1.0", ".word 1_0", ".word 99999999999999999999",
		".word add", ".word r3", ".word a+0", ".word a+65536", ".word a+04", ".word a+", ".word a+-1", ".word a + 1", ".word a +1", ".word a+ 1", ".word a-1", ".word a+1+1", ".word a+b", ".word +1", ".word high a",
		".byte", ".byte 256", ".byte -1", ".byte 1 256", ".byte 01", ".byte 1,2", ".byte a", ".byte 0 1 2 3 4 5 6 7 8 9 10 11 12 13 14 15 16", ".byte 1 -0",
		".space", ".space -1", ".space 65537", ".space 1 2", ".space a", ".space 010",
		"add", "add r1 r2", "add r1, r2, r3", "add r1 r2 r16", "add r1 r2 r3 r4", "li r01 5", "li r1 32768", "addi r1 r2 a", "li r1 a", "lw r1 r2 a", "ADD r1 r2 r3", "nop", "sys a", "trap a",
		"jump", "jump add", "jump r1", "jump a b", "jump high a", "jump a+0", "jump a+65536", "jump 8388608", "call low a", "call", "call 1a", "call " + longest + "x", "reg a", "callr a",
		"bz a", "bz r1 r2 a", "bz r16 a", "bz r1 high a", "bz r1 32768", "bnz r1", "bnz a r1", "blu r1 a", "blu r1 r2 r3 a", "blu r1 r2 low a",
		"lui r1 a", "lui r1 low a", "lui r1 high", "lui high a", "lui r1 high high a", "lui r1 high 5", "lui r1 r2 high a", "lui r1 high add", "lui r1 High a", "lui r1 high a b",
		"ori r1 r2 a", "ori r1 r2 high a", "ori r1 low a", "ori r1 r2 low", "ori r1 r2 low 5", "ori r1 r2 low r3", "andi r1 r2 low a", "xori r1 r2 low a", "high a", "low a",
		"la", "la r1", "la a", "la r16 a", "la r1 5", "la r1 add", "la r1 high a", "la r1 r2 a", "la r1 a b", "la 1 a", "la r1 a+65536",
		"const", "const r1", "const 5", "const r1 a", "const r16 5", "const r01 5", "const r1 -2147483649", "const r1 4294967296", "const r1 -0", "const r1 05", "const r1 5 5", "const a 5", "const r1 0x5",
		"li\u00a0r1 5", "li r1 5\r", "\x00", "li r1 5\x00", "\xff", "\v", "-", "5", "a", "a b", "# a", "// a", ", ;",
	}
}

// 5.1: a line of none of the forms, in text and in data, at the front and behind others.
func TestWrongLines(t *testing.T) {
	for _, line := range wrongLines() {
		faulty(t, line, line, api.Fault{Code: api.ErrLine})
		faulty(t, line+", and more", line+"\nli r0 0\n"+line, api.Fault{Code: api.ErrLine})
		faulty(t, line+", behind others", "\n;\nx:\nli r0 0\n"+line+"\n", api.Fault{At: 4, Code: api.ErrLine})
		faulty(t, line+", of data", ".data\n"+line, api.Fault{At: 1, Code: api.ErrLine})
	}
}

// 5.1: lines that may not stand where they do.
func TestLinesNotThere(t *testing.T) {
	instructions := []string{"li r0 0", "add r1 r2 r3", "trap 1", "jump 1", "jump a", "call a", "bz r1 a", "bnz r1 a", "blu r1 r2 a", "lui r1 high a", "ori r1 r2 low a", "la r1 a", "const r1 5", "const r1 65536", "const r1 65537"}
	for _, line := range instructions {
		faulty(t, line+", of data", ".data\n"+line, api.Fault{At: 1, Code: api.ErrLine})
		faulty(t, line+", of data behind text", "a:\n"+line+"\n.data\n.space 4\n"+line, api.Fault{At: 4, Code: api.ErrLine})
	}
	for _, line := range append(instructions, ".word a", ".word a+4") {
		for size := 1; size < 12; size++ {
			space := ".space " + strconv.Itoa(size)
			if size%4 == 0 {
				made(t, space, line)
				continue
			}
			faulty(t, space+", "+line, space+"\n"+line, api.Fault{At: 1, Code: api.ErrLine})
			made(t, space, ".align 4", line)
		}
	}
	for size := 1; size < 12; size++ {
		space := ".space " + strconv.Itoa(size)
		if size%4 == 0 {
			made(t, ".data", space, ".word a")
			continue
		}
		faulty(t, space+", .word a, of data", ".data\n"+space+"\n.word a", api.Fault{At: 2, Code: api.ErrLine})
	}
	made(t, ".data", ".byte 1", ".text", "li r0 0", ".word a") // each section has its own places
}

// 5.1: a label that stands there already, of either section.
func TestLabelsTwice(t *testing.T) {
	faulty(t, "a twice", "a:\na:", api.Fault{At: 1, Code: api.ErrLabel})
	faulty(t, "a in both", "a:\nb:\n\n.data\nc:\na:\nd:\nd:", api.Fault{At: 5, Code: api.ErrLabel})
	faulty(t, "a in data, then text", ".data\na:\n.text\nli r0 0\na: ;", api.Fault{At: 4, Code: api.ErrLabel})
	faulty(t, "the longest", longest+":\n"+longest+":", api.Fault{At: 1, Code: api.ErrLabel})
	made(t, "a:", "A:", "a.:", ".a:", "a$:")
}

// 5.1: .global of a label that there is not is told last, at the first such line.
func TestGlobalsOfNothing(t *testing.T) {
	faulty(t, "no a", ".global a", api.Fault{Code: api.ErrNone})
	faulty(t, "no b", ".global a\n.global b\na:\n.global c\n.global b", api.Fault{At: 1, Code: api.ErrNone})
	faulty(t, "an address is no label", "jump a\n.global a\n.word a", api.Fault{At: 1, Code: api.ErrNone})
	faulty(t, "a line that is none is told ahead", ".global b\na:\nnop", api.Fault{At: 2, Code: api.ErrLine})
	faulty(t, "a label twice is told ahead", ".global b\na:\na:", api.Fault{At: 2, Code: api.ErrLabel})
	faulty(t, "too long is told ahead", ".global b\n.data\n"+strings.Repeat(".space 65536\n", 16)+".byte 1", api.Fault{At: 18, Code: api.ErrLong})
}

// 5.1: a text of 1 << 20 bytes is read, a longer one is not.
func TestTextTooLong(t *testing.T) {
	for what, fill := range map[string]string{"blanks": " ", "lines": "\n", "a remark": ";", "blanks of both kinds": "\t"} {
		o, f := asm.Assemble(strings.Repeat(fill, 1<<20))
		same(t, what, all(said(o), f), all(said(api.Object{}), api.Fault{}))
		faulty(t, what, strings.Repeat(fill, 1<<20+1), api.Fault{Code: api.ErrLong})
		faulty(t, what+" behind a wrong line", "li r0 0\nnop"+strings.Repeat(fill, 1<<20), api.Fault{Code: api.ErrLong})
	}
	faulty(t, "a line of letters", strings.Repeat("a", 1<<20), api.Fault{Code: api.ErrLine})
	faulty(t, "a longer one", strings.Repeat("a", 1<<20+1), api.Fault{Code: api.ErrLong})
	faulty(t, "a line of numbers", "li r0 0\n.byte "+strings.Repeat("1 ", 1<<18), api.Fault{At: 1, Code: api.ErrLine})
}

// 5.1: a section of 1 << 20 bytes may be, and one more byte is told at its line.
func TestSectionTooLong(t *testing.T) {
	for _, section := range []string{".text", ".data"} {
		full := section + strings.Repeat("\n.space 65536", 16)
		for _, line := range []string{"", ".space 0", ".align 16", "a:", ".global a\na:", ".text\n.data"} {
			if _, f := asm.Assemble(full + "\n" + line); f != (api.Fault{}) {
				t.Errorf("%.400s, full, and %.400q: %v", section, line, f)
			}
		}
		for _, line := range []string{".byte 1", ".space 1", ".space 65536", ".word 1", ".word a", ".byte 1 2 3 4 5 6 7 8 9 10 11 12 13 14 15 16"} {
			faulty(t, section+", full, and "+line, full+"\n"+line, api.Fault{At: 17, Code: api.ErrLong})
			faulty(t, section+", full, and "+line+" and more", full+"\na:\n\n"+line+"\nnop", api.Fault{At: 19, Code: api.ErrLong})
		}
		for _, line := range []string{"nop", ".byte 256", ".space 65537", ".align 3", "add:"} {
			faulty(t, section+", full, and "+line, full+"\n"+line, api.Fault{At: 17, Code: api.ErrLine})
		}
		other := map[string]string{".text": ".data", ".data": ".text"}[section]
		o := made(t, full, other, ".byte 1")
		same(t, "sizes", len(o.Text)+len(o.Data), 1<<20+1)
	}
	all15 := ".text" + strings.Repeat("\n.space 65536", 15)
	for _, x := range []struct {
		space, line string
		e           api.Errno
	}{
		{"65532", "li r0 0", api.OK}, {"65536", "li r0 0", api.ErrLong}, {"65528", "la r1 a", api.OK}, {"65532", "la r1 a", api.ErrLong}, {"65532", "const r1 5", api.OK},
		{"65532", "const r1 65536", api.OK}, {"65532", "const r1 65537", api.ErrLong}, {"65536", "jump a", api.ErrLong}, {"65532", "jump a", api.OK}, {"65533", ".word 5", api.ErrLong},
		{"65532", ".word a", api.OK}, {"65521", ".byte 1 2 3 4 5 6 7 8 9 10 11 12 13 14 15 16", api.ErrLong}, {"65520", ".byte 1 2 3 4 5 6 7 8 9 10 11 12 13 14 15 16", api.OK}, {"65521", ".align 16", api.OK},
		{"65536", "li r0 99999", api.ErrLine}, {"65533", "la r1 a", api.ErrLine}, {"65533", ".word a", api.ErrLine}, {"65536", "la r1 5", api.ErrLine},
	} {
		want := api.Fault{}
		if x.e != api.OK {
			want = api.Fault{At: 17, Code: x.e}
		}
		_, f := asm.Assemble(all15 + "\n.space " + x.space + "\n" + x.line)
		same(t, x.space+" more, and "+x.line, f, want)
	}
}

// 5.1: MaxItems labels, in both sections, and no more; one that stands already is told ahead of that.
func TestTooManyLabels(t *testing.T) {
	var l []string
	for i := range api.MaxItems {
		if i%1000 == 0 {
			l = append(l, []string{".text", ".data"}[i/1000%2])
		}
		l = append(l, "l"+strconv.Itoa(i)+":")
	}
	o := made(t, l...)
	same(t, "labels", len(o.Labels), api.MaxItems)
	same(t, "Check", asm.Check(o), api.OK)
	text := strings.Join(l, "\n")
	faulty(t, "one more", text+"\n\none:\nli r0 0", api.Fault{At: len(l) + 1, Code: api.ErrLong})
	faulty(t, "one more, of text", text+"\n.text\none:\nli r0 0", api.Fault{At: len(l) + 1, Code: api.ErrLong})
	faulty(t, "one that stands there", text+"\nl77:", api.Fault{At: len(l), Code: api.ErrLabel})
	faulty(t, "one that is none", text+"\nr77:", api.Fault{At: len(l), Code: api.ErrLine})
	made(t, text, ".global l1", ".text", "li r0 0", "jump one")
}

// 5.1: 1 << 14 relocations, in both sections, and no more.
func TestTooManyRelocs(t *testing.T) {
	const most = 1 << 14
	half := strings.Repeat("jump a\n", most/2-1) + ".data\n" + strings.Repeat(".word a+1\n", most/2) // one less than most
	lines := most
	o := made(t, half+".text", "call b")
	same(t, "relocations", len(o.Relocs), most)
	same(t, "Check", asm.Check(o), api.OK)
	for _, line := range []string{"call b", "bz r1 a", "lui r1 high a", "ori r1 r1 low a", ".word a", ".data\n.word a"} {
		at := lines + 2 + strings.Count(line, "\n")
		faulty(t, "one more: "+line, half+".text\ncall b\n"+line+"\nnop", api.Fault{At: at, Code: api.ErrLong})
	}
	faulty(t, "two of one line", half+".text\nla r1 a\nnop", api.Fault{At: lines + 1, Code: api.ErrLong})
	faulty(t, "a line that is none", half+".text\ncall b\ncall 1b", api.Fault{At: lines + 2, Code: api.ErrLine})
	faulty(t, "a word that is not there", half+".text\ncall b\n.byte 1\n.word a", api.Fault{At: lines + 3, Code: api.ErrLine})
	made(t, half+".text", "call b", "li r0 0", ".word 5", "const r1 99999", "jump 5", "a:")
}
