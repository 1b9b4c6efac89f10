package asm

import (
	"slices"

	"catapult/api"
)

// The numbers of the sections.
const (
	inText = 0
	inData = 1
)

// joint is of what the sections' sizes are made multiples, ahead of another object.
const joint = 16

// object is an object taken apart into its sections.
type object struct {
	text textSection
	data dataSection
}

// newObject is an object of nothing.
func newObject() object {
	return object{textSection{section{number: inText}}, dataSection{section{number: inData}}}
}

// apart is an object taken apart, as far as its lists are in order: what is first of another section than text, and all behind it, goes to data.
func apart(o api.Object) object {
	x := newObject()
	x.text.bytes, x.data.bytes = o.Text, o.Data
	l, r := 0, 0
	for l < len(o.Labels) && o.Labels[l].Section == inText {
		l++
	}
	for r < len(o.Relocs) && o.Relocs[r].Section == inText {
		r++
	}
	x.text.labels, x.data.labels = o.Labels[:l], o.Labels[l:]
	x.text.relocs, x.data.relocs = o.Relocs[:r], o.Relocs[r:]
	return x
}

// whole is the object of both sections, in new memory.
func (x *object) whole() api.Object {
	return api.Object{
		Text:   slices.Clone(x.text.bytes),
		Data:   slices.Clone(x.data.bytes),
		Labels: slices.Concat(x.text.labels, x.data.labels),
		Relocs: slices.Concat(x.text.relocs, x.data.relocs),
	}
}

// labels, relocs are how many there are, in both sections.
func (x *object) labels() int { return len(x.text.labels) + len(x.data.labels) }
func (x *object) relocs() int { return len(x.text.relocs) + len(x.data.relocs) }

// isLong tells whether something is too long, or too many.
func (x *object) isLong() bool {
	return x.text.size() > maxSection || x.data.size() > maxSection || x.labels() > api.MaxItems || x.relocs() > maxRelocs
}

// isRight tells whether an object that is not too long is right.
func (x *object) isRight() bool {
	known := names{}
	return x.text.isRight(x.text.fits) && x.data.isRight(x.data.fits) &&
		known.addAll(x.text.labels) && known.addAll(x.data.labels)
}

// pad makes room for another object's sections.
func (x *object) pad() {
	x.text.align(joint)
	x.data.align(joint)
}

// add puts another object's sections behind those that are there.
func (x *object) add(y object) {
	x.text.add(y.text.section)
	x.data.add(y.data.section)
}

// names is a set of labels' names.
type names map[string]struct{}

// has tells whether a name is there.
func (n names) has(name string) bool {
	_, ok := n[name]
	return ok
}

// addAll adds labels' names, up to the first that is there already; it tells whether none is.
func (n names) addAll(l []api.Label) bool {
	for _, x := range l {
		if n.has(x.Name) {
			return false
		}
		n[x.Name] = struct{}{}
	}
	return true
}
