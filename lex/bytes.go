package lex

// What parts lines, and what stands about characters and texts and in their escapes.
const (
	lineFeed  = "\n"
	charQuote = '\''
	textQuote = '"'
	escapes   = '\\'
)

// marks is all marks, the longest first: of those that a text begins with, the first one is the token.
var marks = [...]string{
	"<<=", ">>=",
	"->", "++", "--", "<<", ">>", "<=", ">=", "==", "!=", "&&", "||", "*=", "/=", "%=", "+=", "-=", "&=", "^=", "|=",
	"{", "}", "(", ")", "[", "]", ";", ",", ".", "&", "*", "+", "-", "~", "!", "/", "%", "<", ">", "^", "|", "?", ":", "=",
}

// isMark tells whether a text is a mark.
func isMark(s string) bool {
	for _, m := range marks {
		if m == s {
			return true
		}
	}
	return false
}

// isLetter tells whether a byte may begin a word.
func isLetter(c byte) bool { return 'a' <= c && c <= 'z' || 'A' <= c && c <= 'Z' || c == '_' }

// isDigit tells whether a byte is a digit.
func isDigit(c byte) bool { return '0' <= c && c <= '9' }

// isBlank tells whether a byte is blank wherever it stands between tokens.
func isBlank(c byte) bool { return 9 <= c && c <= 13 || c == ' ' }

// isPlain tells whether a byte stands for itself between these quotes.
func isPlain(c, quote byte) bool { return 32 <= c && c <= 126 && c != quote && c != escapes }
