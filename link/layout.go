package link

import (
	"catapult/api"
	"catapult/asm"
	"catapult/emu"
)

// What ranges may be.
const (
	maxRanges = 16
	grain     = 16 // what From and Size are multiples of
)

// The sections' ranges, by the sections' numbers, and their names.
const (
	inText   = 0
	inData   = 1
	textName = "text"
	dataName = "data"
)

// endOf is what stands behind a range's name in the name of the address behind it.
const endOf = ".end"

// layout is objects joined, the ranges in which they stand, the extra ones behind them, and what each name stands for.
type layout struct {
	joined api.Object
	ranges []api.Range
	names  map[string]int
}

// layOut is the layout of objects and extra ranges, with nothing put in.
func layOut(extra []api.Range, o []api.Object) (*layout, api.Fault) {
	joined, f := asm.Join(o...)
	if f.Code != api.OK {
		return nil, f
	}
	l := &layout{joined: joined, names: map[string]int{}}
	l.place(api.Range{Name: textName, Size: len(joined.Text), Exec: true})
	l.place(api.Range{Name: dataName, Size: len(joined.Data), Write: true})
	for _, x := range joined.Labels {
		l.names[x.Name] = l.ranges[x.Section].From + x.At
	}
	for i, r := range extra {
		if e := l.addExtra(r); e != api.OK {
			return nil, api.Fault{At: i, Code: e}
		}
	}
	if len(l.ranges) > maxRanges || l.end()-TextBase > emu.MaxMemory {
		return nil, api.Fault{Code: api.ErrLong}
	}
	return l, api.Fault{}
}

// addExtra places an extra range, and names it and its end; or it is what is wrong with the range.
func (l *layout) addExtra(r api.Range) api.Errno {
	if r.From != 0 || r.Size < 0 || r.Size > emu.MaxMemory || !isName(r.Name) {
		return api.ErrRange
	}
	if r.Name == textName || r.Name == dataName || l.has(r.Name) || l.has(r.Name+endOf) {
		return api.ErrTwice
	}
	l.names[r.Name] = l.end()
	l.place(r)
	l.names[r.Name+endOf] = l.end()
	return api.OK
}

// place puts a range behind those that stand.
func (l *layout) place(r api.Range) {
	r.From, r.Size = l.end(), (r.Size+grain-1)/grain*grain
	l.ranges = append(l.ranges, r)
}

// end is the address behind all ranges, of which each begins where the one ahead ends.
func (l *layout) end() int {
	if len(l.ranges) == 0 {
		return TextBase
	}
	last := l.ranges[len(l.ranges)-1]
	return last.From + last.Size
}

// has tells whether a name stands for something.
func (l *layout) has(name string) bool {
	_, ok := l.names[name]
	return ok
}

// section is a section's bytes.
func (l *layout) section(number int) []byte {
	if number == inText {
		return l.joined.Text
	}
	return l.joined.Data
}

// entry is the address of a label of text, and whether there is one of this name.
func (l *layout) entry(name string) (int, bool) {
	for _, x := range l.joined.Labels {
		if x.Name == name && x.Section == inText {
			return l.names[name], true
		}
	}
	return 0, false
}

// fills is what stands in the ranges at first.
func (l *layout) fills() []api.Fill {
	var fills []api.Fill
	for _, number := range [...]int{inText, inData} {
		if b := l.section(number); len(b) > 0 {
			fills = append(fills, api.Fill{At: l.ranges[number].From, Bytes: b})
		}
	}
	return fills
}

// isName tells whether an extra range may have this name.
func isName(s string) bool {
	if s == "" || len(s) > api.MaxName || !isLetter(s[0]) {
		return false
	}
	for i := range len(s) {
		if c := s[i]; !isLetter(c) && (c < '0' || '9' < c) && c != '_' {
			return false
		}
	}
	return true
}

// isLetter tells whether a byte is a letter of such names.
func isLetter(c byte) bool { return 'a' <= c && c <= 'z' }
