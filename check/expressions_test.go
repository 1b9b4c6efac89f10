package check_test

import (
	"slices"
	"strings"
	"testing"

	"catapult/api"
	"catapult/check"
	"catapult/tree"
)

// 13.1, numbers, texts and names: what they are, used as a value.
func TestLeaves(t *testing.T) {
	trees(t, `
		0 => 0i
		7u => 7u
		2147483647 => 2147483647i
		2147483648 => 2147483648u
		4294967295u => 4294967295u
		'a' => 97i
		'\xff' => -1i
		"ab" => (field0:pc &0)
		"" => (field0:pc &0)
		&"ab" => &0
		*"ab" => (load:c (field0:pc &0))
		"ab", "cd", "ab" => (comma:pc (comma:pc (field0:pc &0) (field0:pc &1)) (field0:pc &2))
		c => (load:c &c)
		s => (load:s &s)
		i => (load:i &i)
		u => (load:u &u)
		p => (load:pi &p)
		v => (load:pv &v)
		o => (load:pf(i)i &o)
		a => (field0:pi &a)
		b => (field0:pa3:c &b)
		t => &t
		j => &j
		x => (load:pSnone; &x)
		C => (load:c &C)
		A => (field0:pi &A)
		T => &T
		J => &J
		F => (load:pf(i)i &F)
		f => @f
		h => @h
		main => @main
		getchar => 0 130
		setjmp => 0 130
		i + getchar => 4 130
		z => 0 130
		&z => 1 130
		z(1) => 0 130
		sizeof z => 7 130
		nobody => 0 130
	`)
}

// 13.1: the types of the leaves' core trees.
func TestTypesOfLeaves(t *testing.T) {
	for s, want := range map[string]string{
		"&a": "pa3:i", "&A": "pa3:i", "&t": "pSt;", "&T": "pSt;", "j": "pj", "J": "pj", "&j": "pj", "&J": "pj", `&"abc"`: "pa4:c", `&""`: "pa1:c", "f": "pf(i)i", "&f": "pf(i)i", "h": "pf()v", "*h": "pf()v", "k": "pf(u,pSt;)pSt;", "&x": "ppSnone;",
	} {
		x, f := check.Expr(unit(t, scene), slots(), expr(t, s))
		same(t, s, all(f, len(x), x[0].Type), all(api.Fault{}, 1, want))
	}
}

// 13.1: unary operations.
func TestUnary(t *testing.T) {
	trees(t, `
		-i => (neg:i (load:i &i))
		-c => (neg:i (conv:i (load:c &c)))
		-s => (neg:i (conv:i (load:s &s)))
		-u => (neg:u (load:u &u))
		-1 => (neg:i 1i)
		~c => (compl:i (conv:i (load:c &c)))
		~u => (compl:u (load:u &u))
		-p => 0 131
		~p => 0 131
		-a => 0 131
		~t => 0 131
		-h() => 0 131
		~f => 0 131
		-j => 0 131
		!c => (not:i (load:c &c))
		!u => (not:i (load:u &u))
		!p => (not:i (load:pi &p))
		!v => (not:i (load:pv &v))
		!a => (not:i (field0:pi &a))
		!f => (not:i @f)
		!j => (not:i &j)
		!!i => (not:i (not:i (load:i &i)))
		!t => 0 131
		!h() => 0 131
	`)
}

// 13.1: addresses, and what stands there.
func TestAddresses(t *testing.T) {
	trees(t, `
		&i => &i
		&a => &a
		&t => &t
		&j => &j
		&f => @f
		&*f => @f
		&p => &p
		&*p => (load:pi &p)
		&a[1] => (plus4:pi (field0:pi &a) 1i)
		&t.i => (field4:pi &t)
		&n->i => (field4:pi (load:pSt; &n))
		&1 => 0 132
		&(i + 1) => 0 132
		&f(1) => 0 132
		&h() => 0 132
		&(t = T) => 0 132
		&(i, i) => 0 132
		&(i ? i : i) => 0 132
		&(int)i => 0 132
		&(struct t)t => 0 132
		&i++ => 0 132
		*p => (load:i (load:pi &p))
		*a => (load:i (field0:pi &a))
		*b => (field0:pc (field0:pa3:c &b))
		**b => (load:c (field0:pc (field0:pa3:c &b)))
		*pp => (load:pi (load:ppi &pp))
		**pp => (load:i (load:pi (load:ppi &pp)))
		*&i => (load:i &i)
		*&a => (field0:pi &a)
		*n => (load:pSt; &n)
		*x => (load:pSnone; &x)
		*j => &j
		*&j => &j
		*o => (load:pf(i)i &o)
		**o => (load:pf(i)i &o)
		***f => @f
		*v => 0 131
		*i => 0 131
		*t => 0 131
		*h() => 0 131
		*0 => 0 131
	`)
}

// 13.1: ++ and --.
func TestIncrements(t *testing.T) {
	trees(t, `
		++c => (incr1-pre:c &c)
		--s => (incr-1-pre:s &s)
		i++ => (incr1-post:i &i)
		u-- => (incr-1-post:u &u)
		++p => (incr4-pre:pi &p)
		q-- => (incr-1-post:pc &q)
		--n => (incr-20-pre:pSt; &n)
		pp++ => (incr4-post:ppi &pp)
		++*p => (incr1-pre:i (load:pi &p))
		a[1]++ => (incr1-post:i (plus4:pi (field0:pi &a) 1i))
		--t.c => (incr-1-pre:c (field0:pc &t))
		C++ => (incr1-post:c &C)
		v++ => 0 131
		--x => 0 131
		o++ => 0 131
		a++ => 0 132
		++t => 0 132
		++j => 0 132
		1++ => 0 132
		++f => 0 132
		++h() => 0 132
		(i + 1)++ => 0 132
		i++++ => 0 132
		--(i = 1) => 0 132
	`)
}

// 13.1: operations on numbers.
func TestNumbers(t *testing.T) {
	for mark, name := range map[string]string{"*": "mul", "/": "div", "%": "rem", "+": "add", "-": "sub", "&": "and", "|": "or", "^": "xor"} {
		trees(t, strings.NewReplacer("#", mark, "%", name).Replace(`
			i # 2 => (%:i (load:i &i) 2i)
			c # s => (%:i (conv:i (load:c &c)) (conv:i (load:s &s)))
			c # c => (%:i (conv:i (load:c &c)) (conv:i (load:c &c)))
			u # c => (%:u (load:u &u) (conv:u (load:c &c)))
			i # u => (%:u (conv:u (load:i &i)) (load:u &u))
			t # 1 => 0 131
			1 # t => 0 131
			f # f(1) => 0 131
			1 # h() => 0 131
			h() # 1 => 0 131
			v # 1 => 0 131
		`))
	}
	for _, mark := range []string{"*", "/", "%", "&", "|", "^", "<<", ">>"} {
		trees(t, strings.ReplaceAll(`
			p # 1 => 0 131
			i # p => 0 131
			p # p => 0 131
			a # 1 => 0 131
		`, "#", mark))
	}
	for mark, name := range map[string]string{"<<": "shl", ">>": "shr"} {
		trees(t, strings.NewReplacer("#", mark, "%", name).Replace(`
			i # 2 => (%:i (load:i &i) 2i)
			c # u => (%:i (conv:i (load:c &c)) (conv:i (load:u &u)))
			s # s => (%:i (conv:i (load:s &s)) (conv:i (load:s &s)))
			u # c => (%:u (load:u &u) (conv:i (load:c &c)))
			u # u => (%:u (load:u &u) (conv:i (load:u &u)))
			i # h() => 0 131
			t # 1 => 0 131
		`))
	}
}

// 13.1: + and - of pointers.
func TestMovedPointers(t *testing.T) {
	trees(t, `
		p + 1 => (plus4:pi (load:pi &p) 1i)
		1 + p => (plus4:pi (load:pi &p) 1i)
		c + q => (plus1:pc (load:pc &q) (conv:i (load:c &c)))
		p + s => (plus4:pi (load:pi &p) (conv:i (load:s &s)))
		p + u => (plus4:pi (load:pi &p) (conv:i (load:u &u)))
		n + 1 => (plus20:pSt; (load:pSt; &n) 1i)
		a + i => (plus4:pi (field0:pi &a) (load:i &i))
		b + 1 => (plus3:pa3:c (field0:pa3:c &b) 1i)
		&a + 1 => (plus12:pa3:i &a 1i)
		j + 1 => (plus64:pj &j 1i)
		pp + 1 => (plus4:ppi (load:ppi &pp) 1i)
		0 + p => (plus4:pi (load:pi &p) 0i)
		p - 1 => (plus4:pi (load:pi &p) (neg:i 1i))
		p - c => (plus4:pi (load:pi &p) (neg:i (conv:i (load:c &c))))
		p - u => (plus4:pi (load:pi &p) (neg:i (conv:i (load:u &u))))
		p - p => (minus4:i (load:pi &p) (load:pi &p))
		a - p => (minus4:i (field0:pi &a) (load:pi &p))
		n - n => (minus20:i (load:pSt; &n) (load:pSt; &n))
		b[1] - q => (minus1:i (field0:pc (plus3:pa3:c (field0:pa3:c &b) 1i)) (load:pc &q))
		1 - p => 0 131
		p + p => 0 131
		p - q => 0 131
		p - v => 0 131
		v + 1 => 0 131
		v - v => 0 131
		x + 1 => 0 131
		x - x => 0 131
		1 + x => 0 131
		f + 1 => 0 131
		o - o => 0 131
		p + t => 0 131
		p - h() => 0 131
		p + (void *)0 => 0 131
		0 + 0 => (add:i 0i 0i)
	`)
}

// 13.1: what is reckoned, and numbers, stand in the order of the text, but for a pointer behind a number.
func TestStringsOfMovedPointers(t *testing.T) {
	trees(t, `
		*"a" + "bc" => (plus1:pc (field0:pc &1) (conv:i (load:c (field0:pc &0))))
		"a" + *"bc" => (plus1:pc (field0:pc &0) (conv:i (load:c (field0:pc &1))))
		0["a"] => (load:c (plus1:pc (field0:pc &0) 0i))
	`)
}

// 13.1: what is held against each other.
func TestComparisons(t *testing.T) {
	for mark, form := range map[string]string{"<": "(lt:i %)", "<=": "(le:i %)", ">": "(not:i (le:i %))", ">=": "(not:i (lt:i %))", "==": "(eq:i %)", "!=": "(ne:i %)"} {
		rows(strings.ReplaceAll(`
			i # 2 => (load:i &i) 2i
			c # s => (conv:i (load:c &c)) (conv:i (load:s &s))
			u # -1 => (load:u &u) (conv:u (neg:i 1i))
			c # u => (conv:u (load:c &c)) (load:u &u)
			p # p => (load:pi &p) (load:pi &p)
			a # p => (field0:pi &a) (load:pi &p)
			n # N => (load:pSt; &n) (load:pSt; &N)
			j # J => &j &J
			0 # 0 => 0i 0i
		`, "#", mark), func(s, want string) { same(t, s, typed(t, s, false), strings.Replace(form, "%", want, 1)) })
		trees(t, strings.ReplaceAll(`
			p # q => 0 131
			p # 1 => 0 131
			i # p => 0 131
			p # 0u => 0 131
			p # (int)0 => 0 131
			p # 1 - 1 => 0 131
			t # t => 0 131
			h() # h() => 0 131
			t # 0 => 0 131
			f # k => 0 131
			v # f => 0 131
			f # v => 0 131
		`, "#", mark))
	}
	for _, mark := range []string{"<", "<=", ">", ">="} {
		trees(t, strings.ReplaceAll(`
			p # 0 => 0 131
			0 # p => 0 131
			p # v => 0 131
			v # v => 0 131
			x # x => 0 131
			f # f => 0 131
			o # 0 => 0 131
		`, "#", mark))
	}
}

// 13.1: == and != of pointers and nothing, and of pv.
func TestSamePointers(t *testing.T) {
	for mark, name := range map[string]string{"==": "eq", "!=": "ne"} {
		trees(t, strings.NewReplacer("#", mark, "%", name).Replace(`
			p # 0 => (%:i (load:pi &p) null:pi)
			0 # p => (%:i null:pi (load:pi &p))
			'\0' # p => (%:i null:pi (load:pi &p))
			p # (void *)0 => (%:i (load:pi &p) null:pi)
			(void *)(void *)0 # p => (%:i null:pi (load:pi &p))
			o # 0 => (%:i (load:pf(i)i &o) null:pf(i)i)
			0 # f => (%:i null:pf(i)i @f)
			f # (void *)0 => (%:i @f null:pf(i)i)
			f # o => (%:i @f (load:pf(i)i &o))
			a # 0 => (%:i (field0:pi &a) null:pi)
			v # 0 => (%:i (load:pv &v) null:pv)
			v # (void *)0 => (%:i (load:pv &v) null:pv)
			(void *)0 # (void *)0 => (%:i null:pv null:pv)
			(void *)0 # 0 => (%:i null:pv null:pv)
			0 # (void *)0 => (%:i null:pv null:pv)
			v # V => (%:i (load:pv &v) (load:pv &V))
			p # v => (%:i (load:pi &p) (conv:pi (load:pv &v)))
			v # p => (%:i (conv:pi (load:pv &v)) (load:pi &p))
			(void *)0 # v => (%:i null:pv (load:pv &v))
			x # x => (%:i (load:pSnone; &x) (load:pSnone; &x))
			v # x => (%:i (conv:pSnone; (load:pv &v)) (load:pSnone; &x))
			v # j => (%:i (conv:pj (load:pv &v)) &j)
			(int *)0 # q => 0 131
			p # (char *)0 => 0 131
			p # (0, 0) => 0 131
			p # (i ? 0 : 0) => 0 131
			i # (void *)0 => 0 131
			f # (void *)p => 0 131
		`))
	}
}

// 13.1: && and ||.
func TestDecisions(t *testing.T) {
	for mark, name := range map[string]string{"&&": "both", "||": "one"} {
		trees(t, strings.NewReplacer("#", mark, "%", name).Replace(`
			c # p => (%:i (load:c &c) (load:pi &p))
			u # 1 => (%:i (load:u &u) 1i)
			f # a => (%:i @f (field0:pi &a))
			j # "a" => (%:i &j (field0:pc &0))
			i # i # i => (%:i (%:i (load:i &i) (load:i &i)) (load:i &i))
			i # t => 0 131
			t # i => 0 131
			h() # i => 0 131
			i # h() => 0 131
		`))
	}
}

// 13.1: assignments with =.
func TestAssignments(t *testing.T) {
	trees(t, `
		i = 1 => (store:i &i 1i)
		c = i => (store:c &c (conv:c (load:i &i)))
		u = c => (store:u &u (conv:u (load:c &c)))
		c = C => (store:c &c (load:c &C))
		p = 0 => (store:pi &p null:pi)
		p = (void *)0 => (store:pi &p null:pi)
		p = v => (store:pi &p (conv:pi (load:pv &v)))
		v = p => (store:pv &v (conv:pv (load:pi &p)))
		v = a => (store:pv &v (conv:pv (field0:pi &a)))
		v = j => (store:pv &v (conv:pv &j))
		v = 0 => (store:pv &v null:pv)
		v = (void *)0 => (store:pv &v null:pv)
		p = a => (store:pi &p (field0:pi &a))
		q = "ab" => (store:pc &q (field0:pc &0))
		o = f => (store:pf(i)i &o @f)
		o = &f => (store:pf(i)i &o @f)
		o = 0 => (store:pf(i)i &o null:pf(i)i)
		*p = i => (store:i (load:pi &p) (load:i &i))
		a[i] = 1 => (store:i (plus4:pi (field0:pi &a) (load:i &i)) 1i)
		t.a[1] = 'x' => (store:c (plus1:pc (field0:pc (field8:pa3:c &t)) 1i) (conv:c 120i))
		"ab"[0] = 1 => (store:c (plus1:pc (field0:pc &0) 0i) (conv:c 1i))
		i = c = u => (store:i &i (conv:i (store:c &c (conv:c (load:u &u)))))
		t = T => (copy:pSt; &t &T)
		*n = t => (copy:pSt; (load:pSt; &n) &t)
		t = *n => (copy:pSt; &t (load:pSt; &n))
		t = w.t => (copy:pSt; &t (field0:pSt; &w))
		t = T = *n => (copy:pSt; &t (copy:pSt; &T (load:pSt; &n)))
		t = i ? t : T => (copy:pSt; &t (cond:pSt; (load:i &i) &t &T))
		t = (i, T) => (copy:pSt; &t (comma:pSt; (load:i &i) &T))
		t = (struct t)T => (copy:pSt; &t &T)
		*x = *x => (copy:pSnone; (load:pSnone; &x) (load:pSnone; &x))
		1 = i => 0 132
		(i + 1) = i => 0 132
		f(1) = 1 => 0 132
		h() = 1 => 0 132
		f = 0 => 0 132
		a = p => 0 132
		j = j => 0 132
		"a" = "a" => 0 132
		*h = 0 => 0 132
		(t = t) = t => 0 132
		(i ? t : t) = t => 0 132
		(i, i) = 1 => 0 132
		((int)i) = 1 => 0 132
		i++ = 1 => 0 132
		t.a = t.a => 0 132
		w.j = w.j => 0 132
		i = p => 0 131
		p = i => 0 131
		p = 1 => 0 131
		p = 0u => 0 131
		p = q => 0 131
		p = (int)0 => 0 131
		o = h => 0 131
		o = v => 0 131
		v = f => 0 131
		i = t => 0 131
		i = h() => 0 131
		t = 1 => 0 131
		t = w => 0 131
		t = n => 0 131
		t = h() => 0 131
		n = t => 0 131
		p = &a => 0 131
	`)
}

// 13.1: assignments that reckon with what stands there.
func TestUpdates(t *testing.T) {
	for mark, name := range map[string]string{"*": "mul", "/": "div", "%": "rem", "+": "add", "-": "sub", "&": "and", "|": "or", "^": "xor"} {
		trees(t, strings.NewReplacer("#", mark, "%", name).Replace(`
			i #= 2 => (update-%-i:i &i 2i)
			c #= s => (update-%-i:c &c (conv:i (load:s &s)))
			c #= u => (update-%-u:c &c (load:u &u))
			u #= c => (update-%-u:u &u (conv:u (load:c &c)))
			i #= u => (update-%-u:i &i (load:u &u))
			*p #= c => (update-%-i:i (load:pi &p) (conv:i (load:c &c)))
			i #= p => 0 131
			i #= t => 0 131
			i #= h() => 0 131
			1 #= 1 => 0 132
			f(1) #= 1 => 0 132
			a #= 1 => 0 132
			t #= 1 => 0 132
			t #= t => 0 132
			j #= 1 => 0 132
			f #= 1 => 0 132
			h() #= 1 => 0 132
		`))
	}
	for mark, name := range map[string]string{"<<": "shl", ">>": "shr"} {
		trees(t, strings.NewReplacer("#", mark, "%", name).Replace(`
			i #= 2 => (update-%-i:i &i 2i)
			c #= u => (update-%-i:c &c (conv:i (load:u &u)))
			u #= c => (update-%-u:u &u (conv:i (load:c &c)))
			s #= s => (update-%-i:s &s (conv:i (load:s &s)))
			i #= p => 0 131
			i #= h() => 0 131
			1 #= 1 => 0 132
			t #= 1 => 0 132
		`))
	}
	for _, mark := range []string{"*", "/", "%", "&", "|", "^", "<<", ">>"} {
		trees(t, strings.ReplaceAll(`
			p #= 1 => 0 131
			v #= 1 => 0 131
			p #= p => 0 131
		`, "#", mark))
	}
	trees(t, `
		p += 1 => (update-plus-4:pi &p 1i)
		p -= 1 => (update-plus-4:pi &p (neg:i 1i))
		n += c => (update-plus-20:pSt; &n (conv:i (load:c &c)))
		q -= u => (update-plus-1:pc &q (neg:i (conv:i (load:u &u))))
		*pp += i => (update-plus-4:pi (load:ppi &pp) (load:i &i))
		p += p => 0 131
		p -= p => 0 131
		p += t => 0 131
		p += h() => 0 131
		v += 1 => 0 131
		x -= 1 => 0 131
		o += 1 => 0 131
	`)
}

// 13.1: conditionals and commas.
func TestChoices(t *testing.T) {
	trees(t, `
		i ? 1 : 2 => (cond:i (load:i &i) 1i 2i)
		c ? c : c => (cond:i (load:c &c) (conv:i (load:c &c)) (conv:i (load:c &c)))
		p ? c : u => (cond:u (load:pi &p) (conv:u (load:c &c)) (load:u &u))
		i ? p : a => (cond:pi (load:i &i) (load:pi &p) (field0:pi &a))
		i ? p : 0 => (cond:pi (load:i &i) (load:pi &p) null:pi)
		i ? 0 : p => (cond:pi (load:i &i) null:pi (load:pi &p))
		i ? p : v => (cond:pi (load:i &i) (load:pi &p) (conv:pi (load:pv &v)))
		i ? v : p => (cond:pi (load:i &i) (conv:pi (load:pv &v)) (load:pi &p))
		i ? v : v => (cond:pv (load:i &i) (load:pv &v) (load:pv &v))
		i ? (void *)0 : p => (cond:pi (load:i &i) null:pi (load:pi &p))
		i ? (void *)0 : 0 => (cond:pv (load:i &i) null:pv null:pv)
		i ? 0 : 0 => (cond:i (load:i &i) 0i 0i)
		i ? f : o => (cond:pf(i)i (load:i &i) @f (load:pf(i)i &o))
		f ? 0 : f => (cond:pf(i)i @f null:pf(i)i @f)
		i ? j : J => (cond:pj (load:i &i) &j &J)
		i ? t : T => (cond:pSt; (load:i &i) &t &T)
		i ? h() : h() => (cond:v (load:i &i) (call:v @h) (call:v @h))
		t ? 1 : 2 => 0 131
		h() ? 1 : 2 => 0 131
		i ? p : q => 0 131
		i ? p : 1 => 0 131
		i ? 1 : p => 0 131
		i ? t : w => 0 131
		i ? t : 1 => 0 131
		i ? 1 : t => 0 131
		i ? t : n => 0 131
		i ? h() : 1 => 0 131
		i ? 1 : h() => 0 131
		i ? f : v => 0 131
		i ? f : k => 0 131
		i ? h() : p => 0 131
		i, c => (comma:c (load:i &i) (load:c &c))
		a, b => (comma:pa3:c (field0:pi &a) (field0:pa3:c &b))
		t, i => (comma:i &t (load:i &i))
		i, t => (comma:pSt; (load:i &i) &t)
		h(), i => (comma:i (call:v @h) (load:i &i))
		i, h() => (comma:v (load:i &i) (call:v @h))
		h(), h() => (comma:v (call:v @h) (call:v @h))
		f, j => (comma:pj @f &j)
	`)
}

// 13.1: calls, of functions and of built-in ones.
func TestCalls(t *testing.T) {
	trees(t, `
		f(1) => (call:i @f 1i)
		f(c) => (call:i @f (conv:i (load:c &c)))
		(&f)(u) => (call:i @f (conv:i (load:u &u)))
		(*f)(1) => (call:i @f 1i)
		o(1) => (call:i (load:pf(i)i &o) 1i)
		(*o)(1) => (call:i (load:pf(i)i &o) 1i)
		t.h(1) => (call:i (load:pf(i)i (field16:ppf(i)i &t)) 1i)
		(i ? f : o)(1) => (call:i (cond:pf(i)i (load:i &i) @f (load:pf(i)i &o)) 1i)
		g("ab", i) => (call:pc @g (field0:pc &0) (conv:s (load:i &i)))
		g(0, s) => (call:pc @g null:pc (load:s &s))
		g(v, 'a') => (call:pc @g (conv:pc (load:pv &v)) (conv:s 97i))
		k(i, &t) => (call:pSt; @k (conv:u (load:i &i)) &t)
		k(u, k(u, 0))->i => (load:i (field4:pi (call:pSt; @k (load:u &u) (call:pSt; @k (load:u &u) null:pSt;))))
		l(f) => (call:v @l @f)
		l(0) => (call:v @l null:pf(i)i)
		h() => (call:v @h)
		main() => (call:i @main)
		getchar() => built-getchar:i
		putchar(c) => (built-putchar:i (conv:i (load:c &c)))
		exit(u) => (built-exit:v (conv:i (load:u &u)))
		longjmp(j, c) => (built-longjmp:v &j (conv:i (load:c &c)))
		longjmp(&j, 1) => (built-longjmp:v &j 1i)
		longjmp(w.j, 1) => (built-longjmp:v (field20:pj &w) 1i)
		co_new(f, i, 256) => (built-co_new:i @f (load:i &i) 256i)
		co_resume(i, c) => (built-co_resume:i (load:i &i) (conv:i (load:c &c)))
		co_yield(s) => (built-co_yield:i (conv:i (load:s &s)))
		co_done(1) => (built-co_done:i 1i)
		co_free(1) => (built-co_free:v 1i)
		1(2) => 0 131
		i(2) => 0 131
		p(2) => 0 131
		(*p)(2) => 0 131
		t(2) => 0 131
		h()() => 0 131
		f() => 0 131
		f(1, 2) => 0 131
		f(p) => 0 131
		f(t) => 0 131
		f(h()) => 0 131
		f(0)(0) => 0 131
		g(p, 1) => 0 131
		g(1, 1) => 0 131
		k(u, t) => 0 131
		l(h) => 0 131
		l(v) => 0 131
		getchar(1) => 0 131
		putchar() => 0 131
		putchar(p) => 0 131
		longjmp(i, 1) => 0 131
		co_new(h, 1, 2) => 0 131
		exit(h()) => 0 131
		(*getchar)() => 2 130
		(&putchar)(1) => 2 130
		(i, getchar)() => 4 130
		f(getchar) => 2 130
	`)
}

// 13.1: members, by number and by name.
func TestMembers(t *testing.T) {
	trees(t, `
		a[1] => (load:i (plus4:pi (field0:pi &a) 1i))
		1[a] => (load:i (plus4:pi (field0:pi &a) 1i))
		p[c] => (load:i (plus4:pi (load:pi &p) (conv:i (load:c &c))))
		b[1] => (field0:pc (plus3:pa3:c (field0:pa3:c &b) 1i))
		b[1][u] => (load:c (plus1:pc (field0:pc (plus3:pa3:c (field0:pa3:c &b) 1i)) (conv:i (load:u &u))))
		n[2] => (plus20:pSt; (load:pSt; &n) 2i)
		n[2].i => (load:i (field4:pi (plus20:pSt; (load:pSt; &n) 2i)))
		j[0] => (plus64:pj &j 0i)
		i[1] => 0 131
		1[2] => 0 131
		p[p] => 0 131
		p[t] => 0 131
		p[h()] => 0 131
		v[1] => 0 131
		x[1] => 0 131
		f[1] => 0 131
		t[1] => 0 131
		t.c => (load:c (field0:pc &t))
		t.i => (load:i (field4:pi &t))
		t.a => (field0:pc (field8:pa3:c &t))
		t.n => (load:pSt; (field12:ppSt; &t))
		t.n->n->c => (load:c (field0:pc (load:pSt; (field12:ppSt; (load:pSt; (field12:ppSt; &t))))))
		w.t.i => (load:i (field4:pi (field0:pSt; &w)))
		w.t => (field0:pSt; &w)
		w.j => (field20:pj &w)
		W.s => (load:s (field84:ps &W))
		(*n).i => (load:i (field4:pi (load:pSt; &n)))
		n->i => (load:i (field4:pi (load:pSt; &n)))
		(&t)->i => (load:i (field4:pi &t))
		k(1u, 0)->a => (field0:pc (field8:pa3:c (call:pSt; @k 1u null:pSt;)))
		t.b => 0 130
		n->b => 0 130
		x->c => 0 130
		(*x).c => 0 130
		i.c => 0 131
		n.c => 0 131
		p->c => 0 131
		t->c => 0 131
		i->c => 0 131
		h()->c => 0 131
		h().c => 0 131
		(t = T).c => 0 131
		(i ? t : T).c => 0 131
		(i, t).c => 0 131
		((struct t)t).c => 0 131
		f.c => 0 131
		j.c => 0 131
		a.c => 0 131
		a->c => 0 131
	`)
}

// 13.1: casts.
func TestCasts(t *testing.T) {
	trees(t, `
		(char)i => (conv:c (load:i &i))
		(int)c => (conv:i (load:c &c))
		(unsigned)i => (conv:u (load:i &i))
		(short)u => (conv:s (load:u &u))
		(int)i => (load:i &i)
		(char)c => (load:c &c)
		(unsigned)0u => 0u
		(char)300 => (conv:c 300i)
		(void)i => (conv:v (load:i &i))
		(void)p => (conv:v (load:pi &p))
		(void)a => (conv:v (field0:pi &a))
		(void)t => (conv:v &t)
		(void)j => (conv:v &j)
		(void)f => (conv:v @f)
		(void)h() => (conv:v (call:v @h))
		(void)0 => (conv:v 0i)
		(int *)0 => null:pi
		(void *)0 => null:pv
		(void *)(void *)0 => null:pv
		(int *)(void *)0 => null:pi
		(int (*)(int))0 => null:pf(i)i
		(int (*)(int))(void *)0 => null:pf(i)i
		(char *)(int *)0 => (conv:pc null:pi)
		(void *)(int *)0 => (conv:pv null:pi)
		(char *)p => (conv:pc (load:pi &p))
		(void *)p => (conv:pv (load:pi &p))
		(int *)v => (conv:pi (load:pv &v))
		(int *)p => (load:pi &p)
		(void *)v => (load:pv &v)
		(int *)a => (field0:pi &a)
		(char *)a => (conv:pc (field0:pi &a))
		(struct t *)x => (conv:pSt; (load:pSnone; &x))
		(struct none *)n => (conv:pSnone; (load:pSt; &n))
		(struct other *)n => (conv:pSother; (load:pSt; &n))
		(jmp_buf *)j => &j
		(char *)j => (conv:pc &j)
		(char *)&t => (conv:pc &t)
		(int (*)(int))f => @f
		(int (*)(int))o => (load:pf(i)i &o)
		(struct t)t => &t
		(struct t)*n => (load:pSt; &n)
		(int *)1 => 0 131
		(int *)i => 0 131
		(int *)0u => 0 131
		(int)p => 0 131
		(int)v => 0 131
		(int)a => 0 131
		(int)f => 0 131
		(void *)f => 0 131
		(int *)o => 0 131
		(int (*)(int))v => 0 131
		(int (*)(void))f => 0 131
		(int (*)(int))p => 0 131
		(struct t)w => 0 131
		(struct t)n => 0 131
		(struct t)0 => 0 131
		(struct t *)t => 0 131
		(int)t => 0 131
		(int)h() => 0 131
		(int *)h() => 0 131
		(int[3])a => 0 131
		(jmp_buf)j => 0 131
		(int(int))f => 0 131
		(struct none)*x => 0 4
		(struct none)1 => 0 4
		(struct w[800])1 => 0 3
		(struct none)q[v] => 13 131
	`)
}

// 13.1: sizes. What stands in an expression whose size is asked for is typed, but its strings are none of the program's.
func TestSizes(t *testing.T) {
	trees(t, `
		sizeof(char) => 1u
		sizeof(short) => 2u
		sizeof(unsigned) => 4u
		sizeof(void *) => 4u
		sizeof(struct t) => 20u
		sizeof(struct w) => 88u
		sizeof(jmp_buf) => 64u
		sizeof(char[2][3]) => 6u
		sizeof(struct none *) => 4u
		sizeof(void) => 0 131
		sizeof(int(void)) => 0 131
		sizeof(struct none) => 0 4
		sizeof(struct none[2]) => 0 4
		sizeof(struct w[800]) => 0 3
		sizeof c => 1u
		sizeof -c => 4u
		sizeof a => 12u
		sizeof b[0] => 3u
		sizeof *p => 4u
		sizeof t => 20u
		sizeof t.a => 3u
		sizeof j => 64u
		sizeof &j => 4u
		sizeof "abc" => 4u
		sizeof *"abc" => 1u
		sizeof (i, a) => 4u
		sizeof (i, c) => 1u
		sizeof (t = T) => 20u
		sizeof (c ? c : c) => 4u
		sizeof f(1) => 4u
		sizeof &f => 4u
		sizeof i++ => 4u
		sizeof sizeof i => 4u
		sizeof(f) => 0 131
		sizeof *f => 0 131
		sizeof h() => 0 131
		sizeof ((void)i) => 0 131
		sizeof *x => 0 4
		sizeof getchar => 7 130
		sizeof p[p] => 7 131
		sizeof &1 => 7 132
		"a", sizeof "b", "c" => (comma:pc (comma:u (field0:pc &0) 2u) (field0:pc &1))
		sizeof ("a" - "b"), "c" => (comma:pc 4u (field0:pc &0))
		"a", sizeof (sizeof "b" + *"c"), "d" => (comma:pc (comma:u (field0:pc &0) 4u) (field0:pc &1))
	`)
}

// 13.1: of several faults that is told which is in a part, and of those in parts the one farthest to the left.
func TestFirstFault(t *testing.T) {
	trees(t, `
		-(*i) + -(*c) => 2 131
		-t + *i => 0 131
		1 + -t + *i => 4 131
		f(*i, -t) => 2 131
		f(1, -t) => 5 131
		1(-t) => 2 131
		(-t)(1) => 1 131
		1 = *i => 4 131
		1 = -t => 4 131
		*i = &1 => 0 131
		i ? &1 : -t => 4 132
		t ? &1 : 1 => 4 132
		t[-t] => 2 131
		(struct none)-t => 13 131
		(char[65536])*i => 13 131
		sizeof -t => 7 131
		i.none + -t => 0 131
		t.none + -t => 0 130
		&1 + getchar => 0 132
	`)
}

// 13.1: At of each node is that of what it is made of; of what is silent that of its part.
func TestPlaces(t *testing.T) {
	rows(`
		i + c => (add:i@0 (load:i@0 &i@0) (conv:i@4 (load:c@4 &c@4)))
		1 - -c => (sub:i@0 1i@0 (neg:i@4 (conv:i@5 (load:c@5 &c@5))))
		i > 1 => (not:i@0 (le:i@0 (load:i@0 &i@0) 1i@4))
		p - u => (plus4:pi@0 (load:pi@0 &p@0) (neg:i@4 (conv:i@4 (load:u@4 &u@4))))
		1 + p => (plus4:pi@0 (load:pi@4 &p@4) 1i@0)
		-(1 + p)[c] => (neg:i@0 (load:i@1 (plus4:pi@1 (plus4:pi@2 (load:pi@6 &p@6) 1i@2) (conv:i@9 (load:c@9 &c@9)))))
		p = 0 => (store:pi@0 &p@0 null:pi@4)
		p = (void *)0 => (store:pi@0 &p@0 null:pi@4)
		(int *)(void *)0 => null:pi@0
		v = &*a => (store:pv@0 &v@0 (conv:pv@6 (field0:pi@6 &a@6)))
		t = w.t => (copy:pSt;@0 &t@0 (field0:pSt;@4 &w@4))
		(char)(i) => (conv:c@0 (load:i@7 &i@7))
		sizeof i => 4u@0
		1 + sizeof(int) => (add:u@0 (conv:u@0 1i@0) 4u@4)
		f(&i[a]) => 0 131
		g(&0[q], i) => (call:pc@0 @g@0 (plus1:pc@3 (load:pc@5 &q@5) 0i@3) (conv:s@9 (load:i@9 &i@9)))
		i = putchar(c) => (store:i@0 &i@0 (built-putchar:i@4 (conv:i@12 (load:c@12 &c@12))))
		*"a" => (load:c@1 (field0:pc@1 &0@1))
		t.n->c => (load:c@0 (field0:pc@0 (load:pSt;@0 (field12:ppSt;@0 &t@0))))
		c ? p : 0 => (cond:pi@0 (load:c@0 &c@0) (load:pi@4 &p@4) null:pi@8)
		i, !c && u => (comma:i@0 (load:i@0 &i@0) (both:i@3 (not:i@3 (load:c@4 &c@4)) (load:u@9 &u@9)))
		u <<= c => (update-shl-u:u@0 &u@0 (conv:i@6 (load:c@6 &c@6)))
		p -= 1 => (update-plus-4:pi@0 &p@0 (neg:i@5 1i@5))
		++*p => (incr1-pre:i@0 (load:pi@3 &p@3))
	`, func(s, want string) { same(t, s, typed(t, s, true), want) })
}

// 13.1: brackets and what stands in a place of another bind as the tree says: a cast's part is what is cast.
func TestTreesThatNoTextHas(t *testing.T) {
	n := func(n api.Node, parts ...api.Tree) api.Tree {
		x, e := tree.Build(n, parts...)
		same(t, all(n), e, api.OK)
		return x
	}
	zero := n(api.Node{Kind: api.NInt, At: 5, Type: "u"})
	x, f := check.Expr(unit(t, scene), slots(), n(api.Node{Kind: api.NBinary, At: 9, Text: "=="}, n(api.Node{Kind: api.NName, At: 2, Text: "p"}), zero))
	same(t, "p == 0u", all(x, f), all("[]", api.Fault{At: 9, Code: api.ErrType}))
	zero[0].Type = "i"
	x, f = check.Expr(unit(t, scene), slots(), n(api.Node{Kind: api.NBinary, At: 9, Text: "=="}, n(api.Node{Kind: api.NName, At: 2, Text: "p"}), zero))
	same(t, "p == 0", all(told(x, slots(), true), f), all("(eq:i@9 (load:pi@2 &p@2) null:pi@5)", api.Fault{}))
	// A type whose address is deeper than a type may be.
	deep := api.Type(strings.Repeat("p", 47) + "i")
	l := append(slots(), api.Slot{Name: "d", Type: deep})
	x, f = check.Expr(unit(t, scene), l, expr(t, "v == &d"))
	same(t, "a deep type", all(told(x, l, false), f), all("(eq:i (conv:p"+string(deep)+" (load:pv &v)) &d)", api.Fault{}))
	x, f = check.Expr(unit(t, scene), l, expr(t, "0 == &d"))
	same(t, "a deep type", all(told(x, l, false), f), all("(eq:i null:p"+string(deep)+" &d)", api.Fault{}))
	// A type as long as one may be.
	long := api.Type(scalarOf(api.MaxText))
	l = append(slots(), api.Slot{Name: "d", Type: long})
	x, f = check.Expr(unit(t, scene), l, expr(t, "&d == 0 && d && d == 0 && *d == d"))
	same(t, "a long type", all(f, len(x)), all(api.Fault{}, 17))
	same(t, "a long type", all(len(x[0].Type), slices.Contains(x, api.Node{Kind: api.KNull, At: 6, Type: "p" + long})), all(65537, true))
}

// scalarOf is the code of a scalar type that has so many bytes.
func scalarOf(bytes int) string {
	if bytes <= 36 {
		return strings.Repeat("p", bytes-1) + "i"
	}
	inner := bytes - len("pf(,,,,,,,)v")
	l := slices.Repeat([]string{scalarOf(inner / 8)}, 7)
	return "pf(" + strings.Join(append(l, scalarOf(inner-inner/8*7)), ",") + ")v"
}
