package asm_test

import (
	"fmt"
	"slices"
	"strings"
	"testing"

	"catapult/api"
	"catapult/asm"
)

// 5.4: objects made one, written out.
func TestJoinRows(t *testing.T) {
	a := made(t, ".global a", "a:", "li r0 0", "jump b", "a.end:", ".data", "d:", ".byte 1 2 3", "d.end:")
	b := made(t, "b:", "call a+4", ".byte 7", "b.end:", ".data", ".word d", ".global e", "e:")
	o, f := asm.Join(a, b)
	want := api.Object{
		Text: slices.Concat(codeOf(t, "li r0 0", "jump 0"), make([]byte, 8), codeOf(t, "call 0"), []byte{7}),
		Data: append([]byte{1, 2, 3}, make([]byte, 17)...),
		Labels: []api.Label{{Name: "a", Global: true}, {Name: "a.end", At: 8}, {Name: "b", At: 16}, {Name: "b.end", At: 21},
			{Name: "d", Section: 1}, {Name: "d.end", Section: 1, At: 3}, {Name: "e", Section: 1, At: 20, Global: true}},
		Relocs: []api.Reloc{at(4, 4, "b", 0), at(16, 4, "a", 4), {Section: 1, At: 16, Kind: 1, Name: "d"}},
	}
	same(t, "a, b", all(said(o), f), all(said(want), api.Fault{}))
	o, f = asm.Join()
	same(t, "none", all(said(o), f), all(said(api.Object{}), api.Fault{}))
	o, f = asm.Join(api.Object{}, api.Object{}, api.Object{})
	same(t, "nothings", all(said(o), f), all(said(api.Object{}), api.Fault{}))
	o, f = asm.Join(api.Object{Text: []byte{1}}, api.Object{})
	same(t, "padded ahead of nothing", all(said(o), f), all(said(api.Object{Text: append([]byte{1}, make([]byte, 15)...)}), api.Fault{}))
	o, f = asm.Join(api.Object{}, api.Object{Text: []byte{1}})
	same(t, "the last is not padded", all(said(o), f), all(said(api.Object{Text: []byte{1}}), api.Fault{}))
	o, f = asm.Join(api.Object{Data: make([]byte, 16)}, api.Object{Data: make([]byte, 17)}, api.Object{Data: []byte{5}, Text: []byte{6}})
	same(t, "multiples", all(said(o), f), all(said(api.Object{Text: []byte{6}, Data: append(make([]byte, 48), 5)}), api.Fault{}))
}

// 5.4: labels of one place stand as they come.
func TestJoinLabelsOfOnePlace(t *testing.T) {
	o, f := asm.Join(made(t, ".space 16", "z:", ".data", "y:"), made(t, "x:", "w:", ".data", "v:"), made(t, "u:"))
	same(t, "labels", all(said(o), f), all(said(api.Object{Text: make([]byte, 16), Labels: []api.Label{
		{Name: "z", At: 16}, {Name: "x", At: 16}, {Name: "w", At: 16}, {Name: "u", At: 16}, {Name: "y", Section: 1}, {Name: "v", Section: 1}}}), api.Fault{}))
}

// 5.4: the first object that is not right, and its error, ahead of all else.
func TestJoinWrong(t *testing.T) {
	fine, again := made(t, "a:", "li r0 0"), made(t, "b:", "a:")
	wrong, long := api.Object{Labels: []api.Label{{Name: "r1"}}}, api.Object{Text: make([]byte, 1<<20+1)}
	full := api.Object{Data: make([]byte, 1<<20)}
	for _, x := range []struct {
		l    []api.Object
		want api.Fault
	}{
		{[]api.Object{wrong}, api.Fault{Code: api.ErrShape}},
		{[]api.Object{long}, api.Fault{Code: api.ErrLong}},
		{[]api.Object{fine, wrong, long}, api.Fault{At: 1, Code: api.ErrShape}},
		{[]api.Object{fine, long, wrong}, api.Fault{At: 1, Code: api.ErrLong}},
		{[]api.Object{fine, again}, api.Fault{At: 1, Code: api.ErrLabel}},
		{[]api.Object{fine, fine}, api.Fault{At: 1, Code: api.ErrLabel}},
		{[]api.Object{fine, {}, full, again, again}, api.Fault{At: 3, Code: api.ErrLabel}},
		{[]api.Object{fine, again, {}, wrong}, api.Fault{At: 3, Code: api.ErrShape}},
		{[]api.Object{full, full, fine, again}, api.Fault{At: 3, Code: api.ErrLabel}},
		{[]api.Object{full, full, fine, wrong}, api.Fault{At: 3, Code: api.ErrShape}},
		{[]api.Object{full, full, fine}, api.Fault{Code: api.ErrLong}},
		{[]api.Object{fine, full, {Data: []byte{1}}}, api.Fault{Code: api.ErrLong}},
	} {
		o, f := asm.Join(x.l...)
		same(t, all("the fault of ", len(x.l)), f, x.want)
		same(t, "beside it", said(o), said(api.Object{}))
	}
}

// 5.4: a label that stands ahead, whether it is global or not, and in whichever section.
func TestJoinLabelsTwice(t *testing.T) {
	for _, first := range []string{"a:", ".global a\na:", ".data\na:", ".data\n.global a\na:"} {
		for _, second := range []string{"a:", ".global a\na:", ".data\na:", "b:\n.data\n.global a\na:"} {
			o, f := asm.Join(made(t, "z:"), made(t, first), made(t, "y:", "call a"), made(t, second))
			same(t, first+", "+second, all(said(o), f), all(said(api.Object{}), api.Fault{At: 3, Code: api.ErrLabel}))
		}
	}
	_, f := asm.Join(made(t, "a:"), made(t, "A:", "jump a"), made(t, "a.:", "jump a"))
	same(t, "other names", f, api.Fault{})
}

// 5.4: what is just as long as it may be, and what is longer, of each kind.
func TestJoinLong(t *testing.T) {
	sized := func(n int) api.Object { return api.Object{Text: make([]byte, n)} }
	data := func(n int) api.Object { return api.Object{Data: make([]byte, n)} }
	labels := func(name string, n int) api.Object {
		var o api.Object
		for i := range n {
			o.Labels = append(o.Labels, api.Label{Name: fmt.Sprint(name, i), Section: 2 * i / n})
		}
		return o
	}
	relocs := func(n int) api.Object {
		o := api.Object{Text: make([]byte, 4*n)}
		for i := range n {
			o.Relocs = append(o.Relocs, api.Reloc{At: 4 * i, Kind: 1, Name: "a"})
		}
		return o
	}
	const most = 1 << 20
	for what, x := range map[string]struct {
		l    []api.Object
		fits bool
	}{
		"text":                      {[]api.Object{sized(most - 16), sized(16)}, true},
		"text, less than padded":    {[]api.Object{sized(most - 31), sized(16)}, true},
		"text and nothing":          {[]api.Object{sized(most), {}, {}}, true},
		"text padded to the most":   {[]api.Object{sized(most - 15), {}}, true},
		"text by a byte":            {[]api.Object{sized(most - 16), sized(17)}, false},
		"text by padding":           {[]api.Object{sized(most - 15), sized(1)}, false},
		"text by padding between":   {[]api.Object{sized(1), sized(1), sized(most - 31)}, false},
		"text beside padding":       {[]api.Object{sized(1), sized(1), sized(most - 32)}, true},
		"data":                      {[]api.Object{data(most - 16), sized(most), data(16)}, true},
		"data by a byte":            {[]api.Object{data(most - 16), data(17)}, false},
		"data of the first":         {[]api.Object{data(most), sized(most), data(1)}, false},
		"labels":                    {[]api.Object{labels("a", 4000), labels("b", 96)}, true},
		"labels by one":             {[]api.Object{labels("a", 4000), labels("b", 97)}, false},
		"relocations":               {[]api.Object{relocs(1 << 13), relocs(1 << 13)}, true},
		"relocations by one":        {[]api.Object{relocs(1 << 13), relocs(1<<13 + 1)}, false},
		"relocations by one, later": {[]api.Object{relocs(1 << 13), relocs(1 << 13), {}, relocs(1)}, false},
	} {
		o, f := asm.Join(x.l...)
		if !x.fits {
			same(t, what, all(said(o), f), all(said(api.Object{}), api.Fault{Code: api.ErrLong}))
			continue
		}
		if f != (api.Fault{}) || said(o) != said(plainJoin(x.l...)) || asm.Check(o) != api.OK {
			t.Errorf("%.400s: %v, %d bytes", what, f, len(o.Text)+len(o.Data))
		}
	}
}

// named is an object whose labels have other names.
func named(o api.Object, before string) api.Object {
	o = copied(o)
	for i := range o.Labels {
		o.Labels[i].Name = before + o.Labels[i].Name
	}
	return o
}

// joined is objects made one, that may be.
func joined(t *testing.T, l ...api.Object) api.Object {
	t.Helper()
	o, f := asm.Join(l...)
	if f != (api.Fault{}) {
		t.Fatalf("Join: %v", f)
	}
	return o
}

// 5.4, 5.8: many objects are joined as the plainest way has it, and right then; one alone is as it was; it does not matter which are joined first.
func TestManyJoins(t *testing.T) {
	for seed := range 1500 {
		c := chance(seed*17 + 11)
		var l []api.Object
		for i := range c.below(6) {
			l = append(l, named(c.object(t), string(rune('A'+i))))
		}
		o := joined(t, l...)
		same(t, "joined", said(o), said(plainJoin(l...)))
		same(t, "Check", asm.Check(o), api.OK)
		for i, x := range l {
			same(t, "Join of one", said(joined(t, x)), said(x))
			same(t, "the first ones first", said(joined(t, append([]api.Object{joined(t, l[:i+1]...)}, l[i+1:]...)...)), said(o))
			same(t, "the last ones first", said(joined(t, append(slices.Clone(l[:i]), joined(t, l[i:]...))...)), said(o))
		}
	}
}

// 5.8: very many objects, handed in at once.
func TestJoinOfVeryMany(t *testing.T) {
	var l []api.Object
	for i := range api.MaxItems {
		l = append(l, made(t, fmt.Sprintf("l%d:", i), ".byte 1"))
	}
	o := joined(t, l...)
	same(t, "sizes", all(len(o.Text), len(o.Labels), o.Labels[4095]), all(16*4095+1, 4096, api.Label{Name: "l4095", At: 16 * 4095}))
	same(t, "text", strings.Count(string(o.Text), "\x01"), 4096)
	_, f := asm.Join(append(l, made(t, "more:"))...)
	same(t, "one more", f, api.Fault{Code: api.ErrLong})
	same(t, "very many of nothing", said(joined(t, make([]api.Object, 1<<16)...)), said(api.Object{}))
}
