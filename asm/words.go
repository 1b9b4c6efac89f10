package asm

import (
	"strconv"
	"strings"

	"catapult/api"
	"catapult/isa"
)

// Words that a line may begin with, beside operations', and those ahead of half an address.
const (
	wordText   = ".text"
	wordData   = ".data"
	wordGlobal = ".global"
	wordAlign  = ".align"
	wordWord   = ".word"
	wordByte   = ".byte"
	wordSpace  = ".space"
	wordLa     = "la"
	wordConst  = "const"
	wordHigh   = "high"
	wordLow    = "low"
)

// What words and addresses may be.
const (
	maxSymbol = 63
	maxAdd    = 65535
	halfBits  = 16
	leastWord = -1 << 31
	mostWord  = 1<<32 - 1
)

// partsOf is what a line says, part by part.
func partsOf(line string) []string {
	said, _, _ := strings.Cut(line, ";")
	return strings.FieldsFunc(said, func(r rune) bool { return r == ' ' || r == '\t' })
}

// IsSymbol tells whether a text is a symbol.
func IsSymbol(s string) bool {
	return hasBytesOfSymbol(s) && !isOwnWord(s) && !isLikeRegister(s) && !isOperation(s)
}

// hasBytesOfSymbol tells whether a text has the bytes that a symbol may have, and as many.
func hasBytesOfSymbol(s string) bool {
	if len(s) == 0 || len(s) > maxSymbol || isDigit(s[0]) {
		return false
	}
	for i := range len(s) {
		if !isDigit(s[i]) && !beginsSymbol(s[i]) {
			return false
		}
	}
	return true
}

// isDigit tells whether a byte is a digit.
func isDigit(c byte) bool { return '0' <= c && c <= '9' }

// beginsSymbol tells whether a symbol may begin with a byte.
func beginsSymbol(c byte) bool {
	return 'a' <= c && c <= 'z' || 'A' <= c && c <= 'Z' || c == '_' || c == '.' || c == '$'
}

// isOwnWord tells whether a text is a word of this layer.
func isOwnWord(s string) bool {
	switch s {
	case wordText, wordData, wordGlobal, wordAlign, wordWord, wordByte, wordSpace, wordLa, wordConst, wordHigh, wordLow:
		return true
	}
	return false
}

// isLikeRegister tells whether a text is r and digits, whether there is such a register or not.
func isLikeRegister(s string) bool {
	digits, ok := strings.CutPrefix(s, "r")
	return ok && digits != "" && strings.Trim(digits, "0123456789") == ""
}

// isOperation tells whether a text, in which there is no blank, is an operation's word: if so, it is an instruction with the fields of some form.
func isOperation(s string) bool {
	for _, fields := range [...]string{" r0 r0 r0", " r0 r0 8", " r0 8", " r0", " 8"} {
		if _, e := isa.Parse(s + fields); e == api.OK {
			return true
		}
	}
	return false
}

// numberOf is the number that a text is, and whether it is one, from least to most.
func numberOf(s string, least, most int) (int, bool) {
	n, err := strconv.Atoi(s)
	// The way back finds signs and noughts that a number has not.
	if err != nil || strconv.Itoa(n) != s || n < least || n > most {
		return 0, false
	}
	return n, true
}

// addressOf is the address that a text is, as a relocation that tells nothing else, and whether it is one.
func addressOf(s string) (api.Reloc, bool) {
	name, more, ok := strings.Cut(s, "+")
	if !IsSymbol(name) {
		return api.Reloc{}, false
	}
	if !ok {
		return api.Reloc{Name: name}, true
	}
	add, ok := numberOf(more, 1, maxAdd)
	return api.Reloc{Name: name, Add: add}, ok
}

// addressText is the address of a relocation as a text.
func addressText(r api.Reloc) string {
	if r.Add == 0 {
		return r.Name
	}
	return r.Name + "+" + strconv.Itoa(r.Add)
}
