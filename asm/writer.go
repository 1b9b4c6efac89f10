package asm

import (
	"strings"

	"catapult/api"
)

// writer is a text that is written line by line.
type writer struct{ strings.Builder }

// put puts lines behind those that are there.
func (w *writer) put(l ...string) { w.WriteString(Lines(l...)) }

// section puts a section's lines: tell is the line of what stands at a place, and how many bytes that is.
func (w *writer) section(s section, tell func(at int) (string, int)) {
	for at := 0; at < s.size(); {
		w.labels(s.labelsIn(at, at+1))
		line, n := tell(at)
		w.put(line)
		at += n
	}
	w.labels(s.labelsIn(s.size(), s.size()+1))
}

// labels puts labels' lines.
func (w *writer) labels(l []api.Label) {
	for _, x := range l {
		if x.Global {
			w.put(wordGlobal + " " + x.Name)
		}
		w.put(x.Name + ":")
	}
}
