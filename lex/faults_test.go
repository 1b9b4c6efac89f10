package lex_test

import (
	"strings"
	"testing"

	"catapult/api"
	"catapult/lex"
)

// 7.1, ErrToken: bytes that begin no token, at their place.
func TestNoToken(t *testing.T) {
	for s, at := range map[string]int{
		"@": 0, "#": 0, "$": 0, "`": 0, `\`: 0, "\x00": 0, "\x7f": 0, "\x80": 0, "\xff": 0, "ä": 0, "\x08": 0, "\x0e": 0, "\x1f": 0, "\xc2\xa0": 0,
		"a @": 2, "a@": 1, "1@": 1, "+@": 1, "'a'@": 3, `"a"@`: 3, `"a" @ "b"`: 4, "/**/@": 4, "//@\n@": 4, "a$b": 1, "#define a": 0, "a \\\n b": 2, "a\x00": 1, "x = ä;": 4, "@ 08 'ab' /*": 0,
	} {
		faulty(t, s, at, api.ErrToken)
	}
}

// 7.1, ErrEnd: comments, characters and texts that do not end, at their first byte.
func TestNoEnd(t *testing.T) {
	for s, at := range map[string]int{
		"/*": 0, "/*/": 0, "/**": 0, "/* *": 0, "/* * /": 0, "a /*": 2, "a/*b": 1, "/**//*": 4, "/* */ /* \" */ /*": 14, "//\n/*": 3, "/* // \n": 0, "1/*/": 1, `"a"/*`: 3, `"a" "b" /* `: 8, "/*@": 0,
		"'": 0, "'a": 0, "'a\n'": 0, "'\n'": 0, "'ab": 0, "'ab\n": 0, `'\'`: 0, `'\n`: 0, `'\x41`: 0, `'\0`: 0, "a 'b": 2, `'\\\'`: 0, "'a\" ;": 0, "'a//": 0, "'/*": 0,
		`"`: 0, `"a`: 0, "\"a\n\"": 0, "\"\n": 0, `"\"`: 0, `"\n`: 0, `"\x41`: 0, `"\0`: 0, `a "b`: 2, `"a';`: 0, `"a//`: 0, `"/*`: 0, `"a" "b`: 4, `"a""b`: 3, "\"a\"\n\"b\n\"": 4, `"""`: 2, "\"a\"/**/\"": 7, "\"a\n\\q\"": 0,
	} {
		faulty(t, s, at, api.ErrEnd)
	}
}

// 7.1, ErrEscape: pieces that are none, and characters of no piece or more than one.
func TestNoPiece(t *testing.T) {
	for s, at := range map[string]int{
		"''": 0, "'ab'": 0, "'abc'": 0, `'\n\n'`: 0, `'\x414'`: 0, `'\0a'`: 0, "a ''": 2, "''''": 0, "'''": 0, "'  '": 0, `'\\n'`: 0, "'//'": 0, "''a'": 0, `'\''''`: 4,
		`'\01'`: 0, `'\00'`: 0, `'\09'`: 0, `'\1'`: 0, `'\7'`: 0, `'\x'`: 0, `'\x1'`: 0, `'\x1g'`: 0, `'\xg1'`: 0, `'\X41'`: 0, `'\a'`: 0, `'\b'`: 0, `'\?'`: 0, `'\N'`: 0, "'\\\n'": 0, `'\ '`: 0, `'\x+1'`: 0, `'\x_1'`: 0, `'\x1_'`: 0, `'\x 1'`: 0, `'\x-1'`: 0, `'\x1:'`: 0, "'\\x1`'": 0, `'\x/0'`: 0, `'\x0@'`: 0, `'\x0G'`: 0,
		"'\t'": 0, "'\r'": 0, "'\x00'": 0, "'\x7f'": 0, "'\x80'": 0, "'ä'": 0, "\"ä\"": 0, "\"\t\"": 0, "\"a\r\n\"": 0, "\"\x7f\"": 0, "\"\x1f\"": 0,
		`"\q"`: 0, `"\01"`: 0, `"a\0" "1\01"`: 6, `"\x"`: 0, `"\x1"`: 0, `"\x4z"`: 0, `"a" "\q"`: 4, `"a" "b" "\8"`: 8, "\"\\\n\"": 0, `"\u0041"`: 0, `"\/"`: 0,
	} {
		faulty(t, s, at, api.ErrEscape)
	}
}

// 7.1: of a character or a text the first thing that is wrong, from its front on; a piece ahead of the end; how many pieces last.
func TestFirstThingWrong(t *testing.T) {
	for s, want := range map[string]api.Errno{
		`"\q`: api.ErrEscape, `"\`: api.ErrEscape, "\"\\\n": api.ErrEscape, `"\x`: api.ErrEscape, `"\x4`: api.ErrEscape, "\"\\x\n": api.ErrEscape, "\"\\x4\n": api.ErrEscape, `"\01`: api.ErrEscape, "\"\t": api.ErrEscape, "\"a\t\n": api.ErrEscape,
		`'\q`: api.ErrEscape, `'\`: api.ErrEscape, "'\\\n": api.ErrEscape, `'\x`: api.ErrEscape, `'\x4`: api.ErrEscape, `'\01`: api.ErrEscape, "'\t": api.ErrEscape, `'a\q`: api.ErrEscape, `'ab\q`: api.ErrEscape, `'ab\q'`: api.ErrEscape,
		"\"a\n\t": api.ErrEnd, "'a\n\\q'": api.ErrEnd, "'ab\n'": api.ErrEnd, "'ab": api.ErrEnd, `"\0`: api.ErrEnd, "\"\\0\n1\"": api.ErrEnd, "'abcdefgh": api.ErrEnd, "'" + strings.Repeat("a", 5000): api.ErrEnd,
		"'" + strings.Repeat("a", 5000) + "'": api.ErrEscape, "'" + strings.Repeat("a", 5000) + "\t": api.ErrEscape,
	} {
		faulty(t, s, 0, want)
	}
}

// 7.1, ErrNumber: beyond 32 bits, or not of its form.
func TestNoNumber(t *testing.T) {
	for _, s := range []string{
		"00", "01", "08", "007", "00u", "01u", "0_", "1_", "1_0", "1a", "0a", "1f", "1e5", "0b1", "0o7", "0x", "0X", "0xu", "0XU", "0xg", "0x1g", "0x_1", "0x1_", "00x1", "1x1", "0x0x0", "0xx", "1uu", "1uU", "1UU", "1ul", "1l", "1u1", "0u0", "0u_", "0u1", "0x1uu", "0x1uf",
		"4294967296", "4294967296u", "4294967300", "9999999999", "18446744073709551615", "18446744073709551616", "18446744073709551617", "36893488147419103233", "0x100000000", "0xfffffffff", "0x10000000000000000", "0x10000000000000001u", "1" + strings.Repeat("0", 60000), "0x1" + strings.Repeat("0", 60000), "0" + strings.Repeat("0", 60000),
	} {
		faulty(t, s, 0, api.ErrNumber)
		faulty(t, "-"+s+";", 1, api.ErrNumber)
		faulty(t, "a /* */ "+s+" @", 8, api.ErrNumber)
	}
}

// 7.1, ErrLong: of a name.
func TestLongNames(t *testing.T) {
	most := strings.Repeat("n", 31)
	same(t, most, rowOf(tokens(t, most+" "+most)), row(name(most), name(most)))
	for _, s := range []string{most + "n", most + "9", most + "_", strings.Repeat("_", 60000), "int" + strings.Repeat("0", 29)} {
		faulty(t, s, 0, api.ErrLong)
		faulty(t, "int "+s+" = 08;", 4, api.ErrLong)
	}
}

// 7.1, ErrLong: of texts, of all that are joined: at the first one's place, as soon as they are more.
func TestLongTexts(t *testing.T) {
	quoted := func(n int) string { return `"` + strings.Repeat("a", n) + `"` }
	for _, s := range []string{quoted(4096), quoted(4095) + ` "b"`, quoted(2048) + "\n" + quoted(2048), quoted(0) + quoted(4096) + quoted(0), `"` + strings.Repeat(`\x41`, 4096) + `"`, strings.Repeat(`"a" `, 4096), quoted(4096) + "/**/" + `""` + strings.Repeat(`""`, 1000)} {
		l := tokens(t, "x "+s+" y")
		same(t, s, all(len(l), l[1].At, len(l[1].Text), l[2]), all(3, 2, 4096, api.Token{Kind: api.TokName, At: 3 + len(s), Text: "y"}))
	}
	for _, s := range []string{
		quoted(4097), quoted(4096) + ` "b"`, quoted(2048) + "\n" + quoted(2049), `"a" ` + quoted(4096), `"` + strings.Repeat(`\n`, 4097) + `"`, strings.Repeat(`"a" `, 4097), quoted(4096) + `"" "b"`, quoted(9000),
		`"` + strings.Repeat("a", 4097), `"` + strings.Repeat("a", 4097) + "\n", `"` + strings.Repeat("a", 4097) + `\q"`, `"` + strings.Repeat("a", 4097) + "\t\"", quoted(4096) + `"b`, quoted(4096) + `"b\q"`, `"a" ` + quoted(4096) + `"\q"`, quoted(4097) + "/*", quoted(4097) + "@",
	} {
		faulty(t, s, 0, api.ErrLong)
		faulty(t, "x = "+s, 4, api.ErrLong)
	}
	faulty(t, `"`+strings.Repeat("a", 4096), 0, api.ErrEnd)
	faulty(t, `"`+strings.Repeat("a", 4096)+`\q"`, 0, api.ErrEscape)
	faulty(t, quoted(4096)+` "`, 4099, api.ErrEnd)
	faulty(t, quoted(4096)+` "\q"`, 4099, api.ErrEscape)
	faulty(t, quoted(4096)+` /*`, 4099, api.ErrEnd)
	same(t, "apart", len(tokens(t, quoted(4096)+","+quoted(4096))), 3)
}

// 7.1, ErrLong: of the whole, at 0, whatever it is.
func TestLongWhole(t *testing.T) {
	blank := strings.Repeat(" ", 65535)
	same(t, "the most", said(tokens(t, blank+"a")), row(placed(name("a"), 65535)))
	same(t, "a comment of the most", said(tokens(t, "//"+blank[1:])), "")
	faulty(t, blank+"@", 65535, api.ErrToken)
	for _, s := range []string{blank + "  ", blank + "a ", blank + "@@", "@" + blank + " ", "/*" + blank, "\"" + blank + "\"", strings.Repeat("a ", 33000), strings.Repeat("\x00", 1<<20)} {
		faulty(t, s, 0, api.ErrLong)
	}
}

// 7.1, ErrLong: more than MaxTokens tokens, at the first one more, whatever it is.
func TestManyTokens(t *testing.T) {
	full := strings.Repeat(";", 16384)
	for _, s := range []string{"", " ", "// a", "/* a */", "\n"} {
		same(t, "full, and "+s, len(tokens(t, full+s)), 16384)
		same(t, "texts, and "+s, len(tokens(t, full[1:]+`"a" "b"`+s+"\n\"c\"")), 16384)
		for _, more := range []string{"a", ";", "0", "'a'", `"a"`, `"a`, `"\q"`, "@", "\x00", "08", "''", "'", strings.Repeat("n", 32)} {
			faulty(t, full+s+"\n"+more, 16385+len(s), api.ErrLong)
			faulty(t, full+s+"\n"+more+"@", 16385+len(s), api.ErrLong)
		}
	}
	faulty(t, full+" /*", 16385, api.ErrEnd)
	faulty(t, full[1:]+`"a" "b";`, 16390, api.ErrLong)
	faulty(t, full[1:]+"@;", 16383, api.ErrToken)
	faulty(t, full[1:]+"08", 16383, api.ErrNumber)
	faulty(t, strings.Repeat("a ", 32000), 32768, api.ErrLong)
	same(t, "joined texts are one", len(tokens(t, strings.Repeat(`""`, 32000))), 1)
	same(t, "MaxTokens", lex.MaxTokens, 16384)
}

// 7.1: of several faults the first one is told.
func TestFirstFault(t *testing.T) {
	bad := []struct {
		s    string
		code api.Errno
	}{{"@", api.ErrToken}, {"'", api.ErrEnd}, {"\"a", api.ErrEnd}, {"''", api.ErrEscape}, {"\"\\q\"", api.ErrEscape}, {"08", api.ErrNumber}, {strings.Repeat("n", 32), api.ErrLong}, {"\"" + strings.Repeat("n", 4097) + "\"", api.ErrLong}}
	for _, x := range bad {
		for _, y := range bad {
			faulty(t, "a;"+x.s+"\n;"+y.s, 2, x.code)
		}
		faulty(t, x.s+"\n/*", 0, x.code)
		faulty(t, "/* "+x.s, 0, api.ErrEnd)
		same(t, "a comment of "+x.s, said(tokens(t, "// "+x.s+"\n/*"+x.s+"*/")), "")
	}
}
