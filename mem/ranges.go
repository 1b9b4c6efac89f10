package mem

import (
	"slices"

	"catapult/api"
)

// What ranges may be.
const (
	maxRanges = 16
	maxBytes  = 1 << 24 // of a range, and of what is read or filled at a time
	grain     = 16      // what From and Size are multiples of
	leastFrom = 16
	topmost   = 1 << 32 // the address behind the greatest one
)

// Check tells whether ranges are right.
func Check(l []api.Range) api.Errno {
	if len(l) > maxRanges {
		return api.ErrLong
	}
	for i, r := range l {
		s := span{r}
		if !s.isRight() || slices.ContainsFunc(l[:i], s.clashes) {
			return api.ErrShape
		}
	}
	return api.OK
}

// span is a range, with what is asked of it.
type span struct{ api.Range }

// isRight tells whether the range is right by itself.
func (s span) isRight() bool {
	return isName(s.Name) &&
		leastFrom <= s.From && s.From <= topmost && s.From%grain == 0 &&
		0 <= s.Size && s.Size <= maxBytes && s.Size%grain == 0 &&
		s.end() <= topmost
}

// end is the address behind the range.
func (s span) end() int { return s.From + s.Size }

// clashes tells whether another range has the same name, or an address in common.
func (s span) clashes(r api.Range) bool {
	return s.Name == r.Name || max(s.From, r.From) < min(s.end(), span{r}.end())
}

// holds tells whether all n bytes from an address on lie in the range.
func (s span) holds(at uint32, n int) bool {
	return s.From <= int(at) && int(at)+n <= s.end()
}

// place is how far from the range's beginning an address is.
func (s span) place(at uint32) int { return int(at) - s.From }

// isName tells whether a range may have this name.
func isName(s string) bool {
	if s == "" || len(s) > api.MaxName || !isLetter(s[0]) {
		return false
	}
	for i := range len(s) {
		if c := s[i]; !isLetter(c) && (c < '0' || '9' < c) && c != '_' {
			return false
		}
	}
	return true
}

// isLetter tells whether a byte is a letter of names.
func isLetter(c byte) bool { return 'a' <= c && c <= 'z' }
