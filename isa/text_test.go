package isa_test

import (
	"strings"
	"testing"

	"catapult/api"
	"catapult/isa"
)

// 2.2: the rows of the document and of each operation have their texts.
func TestPrintParseRows(t *testing.T) {
	for _, r := range rows() {
		s, e := isa.Print(r.x)
		same(t, "Print of "+r.text, []any{s, e}, []any{r.text, api.OK})
		x, e := isa.Parse(r.text)
		same(t, "Parse of "+r.text, []any{x, e}, []any{r.x, api.OK})
	}
}

// 2.2, 2.6: all right instructions have their texts, which are read as they were.
func TestTextsThereAndBack(t *testing.T) {
	for _, x := range right() {
		s, e := isa.Print(x)
		must(t, s == wantText(x) && e == api.OK, "printed", x, s, e)
		back, e := isa.Parse(s)
		must(t, back == x && e == api.OK, "there and back", x, s, back, e)
	}
}

// 2.2: what is not right has no text.
func TestPrintWrong(t *testing.T) {
	for _, x := range wrong() {
		s, e := isa.Print(x)
		must(t, s == "" && e == api.ErrInstr, "wrong", x, s, e)
	}
}

// refused fails where a text is read, or refused otherwise.
func refused(t *testing.T, s string, want api.Errno) {
	t.Helper()
	x, e := isa.Parse(s)
	if (x != api.Instr{}) || e != want {
		t.Errorf("Parse of %.60q, %d bytes: %v, %v, want %v", s, len(s), x, e, want)
	}
}

// 2.2: texts of no instruction.
func TestParseWrong(t *testing.T) {
	texts := []string{
		"", " ", "\n", "add", "add ", "add r1", "add r1 r2", "add r1 r2 ", "add r1 r2 r3 ", " add r1 r2 r3", "add r1 r2 r3\n",
		"add r1, r2, r3", "add r1,r2,r3", "add  r1 r2 r3", "add r1  r2 r3", "add\tr1 r2 r3", "add r1 r2 r3 r4", "add r1 r2 r3 0", "add r1 r2 3",
		"add 1 2 3", "add rr1 r2 r3", "add R1 r2 r3", "ADD r1 r2 r3", "Add r1 r2 r3", "add r1 r2 r16", "add r1 r2 r-1", "add r1 r2 r-0", "add r1 r2 r+1",
		"add r1 r2 r03", "add r1 r2 r", "add r1 r2 r1 6", "add r1 r2 r٣", "add r1 r2 r0x3", "add r1 r2 x3", "addr1 r2 r3", "addd r1 r2 r3", "ad r1 r2 r3",
		"li r01 5", "li r1 05", "li r1 +5", "li r1 -0", "li r1 --5", "li r1 - 5", "li r1 5 ", "li r1 0x5", "li r1 5.0", "li r1 r5", "li r1 1e3", "li r1 1_0",
		"li r1 32768", "li r1 -32769", "li r1 99999999999999999999", "li r1 -99999999999999999999", "li r1 9223372036854775807", "li r1 4294967301", "li r1",
		"lui r1 65536", "lui r1 -1", "shli r1 r2 32", "shli r1 r2 -1", "ext r1 r2 9", "ext r1 r2 0", "ext r1 r2 32", "ext r1 r2",
		"jump 8388608", "jump -8388609", "jump r1", "jump", "call r1", "callr 1", "callr", "reg r14 0", "reg 14", "reg r14 r14", "bz 1", "bz r1", "bz r1 r2 3",
		"blu r1 2", "blu r1 r2 r3", "lw r0 4(r13)", "lw r0 r13", "sys", "sys -1", "sys 65536", "sys r0", "trap", "trap -1", "trap 65536", "trap 1 1",
		"nop", "0", "r1", "0x01123000", "-", "li", "li r1 5\x00", "li r1 \xff", "li\u00a0r1 5",
	}
	for _, s := range texts {
		refused(t, s, api.ErrForm)
	}
}

// 2.2: at MaxText bytes a text is looked at, and beyond it is not.
func TestParseLong(t *testing.T) {
	for _, begin := range []string{"add r1 r2 r3", "jump ", "li r1 ", "trap 1 ", ""} {
		for _, fill := range []string{"0", " ", "r", "\x00", "a"} {
			s := begin + strings.Repeat(fill, api.MaxText+1)
			refused(t, s[:api.MaxText-1], api.ErrForm)
			refused(t, s[:api.MaxText], api.ErrForm)
			refused(t, s[:api.MaxText+1], api.ErrLong)
			refused(t, s+s, api.ErrLong)
		}
	}
}

// parsedAsWanted fails where a text is read otherwise than the rules have it.
func parsedAsWanted(t *testing.T, s string) {
	t.Helper()
	want, ok := wantParsed(s)
	x, e := isa.Parse(s)
	if ok {
		must(t, x == want && e == api.OK, "parsed", s, x, e)
	} else {
		must(t, x == api.Instr{} && e == api.ErrForm, "refused", s, x, e)
	}
}

// 2.2, 2.6: each byte put in another one's place, put in, or left out makes a text of an instruction, or of none.
func TestParseByteByByte(t *testing.T) {
	const bytes = " \t\n-+,.0123456789abcdefhijlmnopqrstuwxyzR_\x00\x7f\xff"
	for _, r := range rows() {
		for at := range len(r.text) + 1 {
			ahead, behind := r.text[:at], r.text[at:]
			for i := range len(bytes) {
				parsedAsWanted(t, ahead+bytes[i:i+1]+behind)
				if behind != "" {
					parsedAsWanted(t, ahead+bytes[i:i+1]+behind[1:])
				}
			}
			if behind != "" {
				parsedAsWanted(t, ahead+behind[1:])
			}
			refused(t, ahead+" "+behind+" ", api.ErrForm)
		}
	}
}

// 2.2: each operation's word with the parts of each other form.
func TestParseFormsCrossed(t *testing.T) {
	for _, w := range append(strings.Fields(wordsInOrder), "nop", "") {
		for _, r := range rows() {
			_, parts, _ := strings.Cut(r.text, " ")
			parsedAsWanted(t, w+" "+parts)
		}
		parsedAsWanted(t, w)
	}
}

// 2.6: what is parsed has that text.
func TestTextsBackAndThere(t *testing.T) {
	for _, r := range rows() {
		x, _ := isa.Parse(r.text)
		s, e := isa.Print(x)
		same(t, "back and there", []any{s, e}, []any{r.text, api.OK})
	}
}

// 2.7: no two instructions have one text.
func TestTextsApart(t *testing.T) {
	of := map[string]api.Instr{}
	for _, x := range right() {
		s, _ := isa.Print(x)
		other, taken := of[s]
		must(t, !taken, "one text of two", x, other, s)
		of[s] = x
	}
}
