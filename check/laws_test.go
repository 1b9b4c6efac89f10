package check_test

import (
	"slices"
	"strings"
	"testing"

	"catapult/api"
	"catapult/check"
	"catapult/names"
	"catapult/parse"
)

// 13.5: each node of what Unit tells has the type that its parts and kind make; no other type would do there, but where a node alone says what it is.
func TestTypesAreKept(t *testing.T) {
	for seed := 3; seed < 120; seed += 4 {
		u, s := grown(t, seed)
		c, f := check.Unit(u)
		if s == "" || f != fine {
			continue
		}
		same(t, s, all(check.Check(c), plainCheck(c)), all(fine, fine))
		for _, x := range c.Funcs {
			for at := range x.Body {
				n := &x.Body[at]
				was := *n
				for _, other := range []api.Type{"", "i", "u", "c", "v", "pi", "p" + was.Type, "St;"} {
					n.Type = other
					isFree := was.Kind == api.KInt || was.Kind == api.KNull || was.Kind == api.KConv || was.Kind == api.KUpdate
					if other != was.Type && !isFree && check.Check(c) == fine {
						t.Fatal(s, at, was, other)
					}
				}
				*n = was
				if at > 60 {
					break
				}
			}
		}
	}
}

// busy is a core tree without nodes that do nothing: conversions to a value's own type.
func busy(t api.Tree) api.Tree {
	var l api.Tree
	for _, n := range t {
		if n.Kind == api.KConv && n.Type == root(l).Type {
			continue
		}
		l = append(l, n)
	}
	return l
}

// unplaced is a core tree without its places.
func unplaced(t api.Tree) api.Tree {
	t = slices.Clone(t)
	for i := range t {
		t[i].At = 0
	}
	return t
}

// 13.6: a cast to an expression's own type, and brackets, change nothing but nodes that do nothing.
func TestCastsAndBrackets(t *testing.T) {
	u := unit(t, scene)
	count := 0
	for seed := range 1800 {
		g := &grower{chance: chance(seed*104729 + 3), names: variables()[:len(slots())], stray: 100000}
		s := g.expression(g.any(), 4)
		x, f := parse.Expr(s)
		if f != fine {
			continue
		}
		core, f := check.Expr(u, slots(), x)
		again, g2 := check.Expr(u, slots(), expr(t, "(("+s+"))"))
		same(t, s, all(f.Code, unplaced(core)), all(g2.Code, unplaced(again)))
		if f != fine {
			continue
		}
		typed := string(root(core).Type)
		if size, _ := check.Expr(u, slots(), expr(t, "sizeof("+s+")")); len(size) > 0 && size[0].Int == 20 {
			typed = "St;" // whose core tree is that of its address
		}
		text := cast(typed)
		if text == "(int)" && typed != "i" {
			continue
		}
		again, f = check.Expr(u, slots(), expr(t, text+"("+s+")"))
		same(t, s, f, fine)
		same(t, s, all(unplaced(busy(again))), all(unplaced(busy(core))))
		count++
	}
	if count < 700 {
		t.Error(count)
	}
	trees(t, `
		(struct t)t => &t
		(struct t)(struct t)*n => (load:pSt; &n)
		(jmp_buf *)j => &j
		(int (*)(int))(int (*)(int))f => @f
		(void)h() => (conv:v (call:v @h))
	`)
}

// 13.6: a block around a statement changes nothing but a block.
func TestBlocksAround(t *testing.T) {
	ahead := strings.TrimSuffix(strings.TrimSpace(scene), "int main() { return 0; }")
	count := 0
	for seed := range 600 {
		g := &grower{chance: chance(seed*1299709 + 7), names: capitals(), stray: 3000}
		s := g.inner(func() string { return g.block(4, "") })
		u, f := parse.Unit(ahead + "int main() " + s)
		if f != fine {
			continue
		}
		c, f := check.Unit(u)
		again, f2 := check.Unit(unit(t, ahead+"int main() {"+s+"}"))
		same(t, s, f.Code, f2.Code)
		if f == fine {
			main, other := body(t, c, "main"), body(t, again, "main")
			same(t, s, all(other.Slots), all(main.Slots))
			same(t, s, all(unplaced(other.Body)), all(append(unplaced(main.Body), api.Node{Kind: api.SBlock, N: 1})))
			count++
		}
	}
	if count < 200 {
		t.Error(count)
	}
	for s, around := range map[string]string{
		"if (I) C; else U;":                    "if (I) { C; } else { { U; } }",
		"while (I) break;":                     "while (I) { break; }",
		"for (;;) continue;":                   "for (;;) { continue; }",
		"do C; while (I);":                     "do { C; } while (I);",
		"switch (I) { case 1: C; default: ; }": "switch (I) { case 1: { C; } default: { ; } }",
	} {
		c, again := core(t, ahead+"int main() {"+s+"}"), core(t, ahead+"int main() {"+around+"}")
		without := func(f api.CoreFunc) string {
			s := strings.NewReplacer("(", " ", ")", " ").Replace(told(f.Body, f.Slots, false))
			return strings.Join(slices.DeleteFunc(strings.Fields(s), func(word string) bool { return word == "Block" }), " ")
		}
		same(t, s, without(body(t, again, "main")), without(body(t, c, "main")))
	}
}

// capitals is the variables of the scene's globals.
func capitals() []variable {
	l := variables()
	for i := range l {
		l[i].name = map[string]string{"o": "F", "n": "N", "x": "X", "pp": "PP"}[l[i].name]
		if l[i].name == "" {
			l[i].name = strings.ToUpper(variables()[i].name)
		}
	}
	return l
}

// 13.7: setjmp is refused everywhere but in the four places, whatever expression is put around it.
func TestSetjmpEverywhere(t *testing.T) {
	around := strings.Fields(`
		-# ~# !!# !!!# #+1 1+# #-1 #*2 2/# #%2 #<<1 1>># #&1 #|1 #^1 #&&1 1&&# #||1 1||# #<i i<# #==#2 #2==# #==(i=1) #!=1/0 #==sizeof(i)
		(#<1)<1 1<(#<1) !(#<1) (#==0)==0 !!(#==0) -(#<1) (#<1)+0 (#<1,1) #?1:2 i?#:2 i?1:# #<1?1:2 (#,1) (1,#) (#,#2) (int)# (char)# (unsigned)# (short)# (int)(#<1) (void)(#,1) (void)!# (void)(void)#
		i=# i+=# c=# p+=# a[#] #[a] *(a+#) f(#) o(#) putchar(#) g(0,#) f(f(#)) (i=#)==0 sizeof(#) sizeof(#<1) sizeof(i=#) &a[#] p-# setjmp(&j+#) setjmp(#?&j:&j)
	`)
	places := []string{"@;", "if (@) ;", "while (@) ;", "do ; while (@);", "for (; @; ) ;", "for (@; ; ) ;", "for (; ; @) ;", "switch (@) { }", "i = (@);", "return @;", "{ int x = (@); }", "f((@));", "switch (i) { case (@): ; }"}
	ahead := "int f(int a) { return a; } char *g(char *a, short b) { return a; } int main() { char c; int i, *p, a[3]; int (*o)(int) = f; jmp_buf j; "
	set := func(p, w string) string {
		return ahead + strings.Replace(p, "@", strings.ReplaceAll(w, "#", "setjmp(j)"), 1) + " return 0; }"
	}
	for _, w := range around {
		for _, p := range places {
			full := set(p, strings.ReplaceAll(w, "#2", "#"))
			same(t, full, fault(t, full), all(strings.Index(full, "setjmp(j)"), int(api.ErrSetjmp)))
		}
	}
	// The four places, and what may stand in one, but not in the others.
	for w, where := range map[string]string{"#": "1111111100000", "(void)#": "1000011000000", "!#": "0111100100000", "#<1": "0111100100000", "1!=#": "0111100100000", "sizeof(int)>=#": "0111100100000", "#==1-1": "0111100100000"} {
		for i, p := range places {
			full := set(p, w)
			if where[i] == '1' {
				core(t, full)
				continue
			}
			same(t, full, fault(t, full), all(strings.Index(full, "setjmp(j)"), int(api.ErrSetjmp)))
		}
	}
}

// 13.1: units that are spoiled are held against the plainest reckoning, and never panic.
func TestSpoiledUnits(t *testing.T) {
	count := map[api.Errno]int{}
	for seed := range 500 {
		good, s := grown(t, seed)
		if s == "" {
			continue
		}
		c := chance(seed*17 + 3)
		for range 8 {
			u := good
			u.Funcs, u.Globals, u.Structs = slices.Clone(u.Funcs), slices.Clone(u.Globals), slices.Clone(u.Structs)
			for range 1 + c.below(2) {
				c.spoilUnit(&u)
			}
			core, f := check.Unit(u)
			count[f.Code]++
			if _, _, fault := names.File(u); fault != fine {
				same(t, s, f, fault)
				continue
			}
			want, fault := plainUnit(u)
			same(t, s, all(f, core), all(fault, want))
		}
	}
	if count[api.OK] < 200 || count[api.ErrType] < 200 || count[api.ErrName] < 50 {
		t.Error(count)
	}
}

// spoilUnit changes something in a unit.
func (c *chance) spoilUnit(u *api.Unit) {
	f := &u.Funcs[c.below(len(u.Funcs))]
	g := &u.Globals[c.below(len(u.Globals))]
	switch c.below(10) {
	case 0:
		u.Structs = u.Structs[:c.below(2)]
	case 1:
		g.Var.Type = of(c, api.Type("i"), "pi", "St;", "j", "a2:c", "pf(i)i", "pSt;")
	case 2:
		*g = u.Globals[c.below(len(u.Globals))]
	case 3:
		f.Name = of(c, "f", "main", "l", "setjmp")
	case 4:
		f.Type = of(c, api.Type("f()i"), "f(i)i", "f()v", "f(pc,s)c")
	default:
		if len(f.Body) == 0 {
			return
		}
		f.Body = slices.Clone(f.Body)
		n, other := &f.Body[c.below(len(f.Body))], f.Body[c.below(len(f.Body))]
		switch {
		case n.Kind == api.NName:
			n.Text = of(c, "i", "c", "p", "t", "a", "f", "h", "getchar", "v", "j", "n", "none")
		case n.Kind == api.NInt:
			n.Int = of(c, 0, 1, 5)
		case n.Type != "" && n.Kind != api.NInt:
			n.Type = of(c, api.Type("c"), "i", "pi", "pv", "St;", "a2:i", "j", "Snone;", "v")
		case n.Kind == api.NBreak || n.Kind == api.NCont:
			n.Kind = of(c, api.NBreak, api.NCont)
		case n.N == other.N:
			other.At = n.At
			*n = other
		}
	}
}

// roomy is a list with room behind it, which is written out, too.
func roomy[T any](l []T, behind ...T) []T {
	to := append(append(make([]T, 0, len(l)+3), l...), behind...)
	return to[:len(l)]
}

// whole is a list with what stands in the room behind it.
func whole[T any](l []T) []T { return l[:cap(l)] }

// R4: what is handed in is not written to, nor what stands behind it; what is answered shares nothing with it, and no two lists of it share any.
func TestOwnMemory(t *testing.T) {
	mark := api.Node{Kind: 99, Text: "behind"}
	for seed := 3; seed < 200; seed += 4 {
		u, s := grown(t, seed)
		if s == "" {
			continue
		}
		for i, f := range u.Funcs {
			u.Funcs[i].Body, u.Funcs[i].Params = roomy(f.Body, mark, mark), roomy(f.Params, api.Var{Name: "behind"})
		}
		for i, g := range u.Globals {
			for j, x := range g.Init {
				g.Init[j] = roomy(x, mark)
			}
			u.Globals[i].Init = roomy(g.Init, api.Tree{mark})
		}
		for i, x := range u.Structs {
			u.Structs[i].Members = roomy(x.Members, api.Member{Name: "behind"})
		}
		u.Structs, u.Globals, u.Funcs = roomy(u.Structs, api.Struct{}), roomy(u.Globals, api.Global{}), roomy(u.Funcs, api.Func{})
		looked := func() string {
			l := []any{whole(u.Structs), whole(u.Globals), whole(u.Funcs)}
			for _, f := range u.Funcs {
				l = append(l, whole(f.Body), whole(f.Params))
			}
			for _, g := range u.Globals {
				l = append(l, whole(g.Init))
			}
			for _, x := range u.Structs {
				l = append(l, whole(x.Members))
			}
			return all(l...)
		}
		before := looked()
		c, f := check.Unit(u)
		same(t, s, looked(), before)
		if f != fine {
			continue
		}
		told := all(c)
		again, _ := check.Unit(u)
		same(t, s, all(again), told)
		check.Check(c)
		check.Weigh(c, "main")
		check.Print(c)
		same(t, s, all(c), told)
		// Each list of the answer is written over, and all others stay.
		wipe := func(l api.Tree) {
			for i := range whole(l) {
				whole(l)[i] = mark
			}
		}
		for i := range c.Funcs {
			wipe(c.Funcs[i].Body)
			c.Funcs[i].Body = nil
			clear(whole(c.Funcs[i].Slots))
			same(t, s, all(c.Funcs[i+1:], c.Globals, c.Strings, c.Structs), all(again.Funcs[i+1:], again.Globals, again.Strings, again.Structs))
		}
		for i := range c.Globals {
			wipe(c.Globals[i].Init)
			same(t, s, all(c.Globals[i+1:], c.Strings), all(again.Globals[i+1:], again.Strings))
		}
		clear(whole(c.Strings))
		for i := range c.Structs {
			clear(whole(c.Structs[i].Members))
			same(t, s, all(c.Structs[i+1:]), all(again.Structs[i+1:]))
		}
		clear(whole(c.Structs))
		same(t, s, looked(), before)
		for _, f := range u.Funcs {
			wipe(f.Body)
		}
		for _, x := range u.Structs {
			clear(whole(x.Members))
		}
		same(t, s, all(again), told)
	}
	u, x, l := unit(t, scene), roomy(expr(t, "f(a[1]) + T.i"), mark), roomy(slots(), api.Slot{Name: "behind"})
	before := all(u, whole(x), whole(l))
	got, f := check.Expr(u, l, x)
	same(t, "Expr", all(u, whole(x), whole(l)), before)
	kept := all(got, f)
	again, _ := check.Expr(u, l, x)
	clear(whole(x))
	clear(whole(l))
	same(t, "Expr", all(got, fine), kept)
	clear(whole(got))
	same(t, "Expr", all(again, fine), kept)
}
