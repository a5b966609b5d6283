package subst_test

import (
	"reflect"
	"slices"
	"strconv"
	"strings"
	"testing"

	"elenchus/api"
	"elenchus/subst"
)

// The terms of these tests are laid by hand, so that lists stand in them as the tests want.

func v(n int) api.Term    { return api.Term{Kind: api.KindVar, N: n} }
func i(n int) api.Term    { return api.Term{Kind: api.KindInt, N: n} }
func a(s string) api.Term { return api.Term{Kind: api.KindAtom, S: s} }
func c(s string, l ...api.Term) api.Term {
	return api.Term{Kind: api.KindComp, S: s, L: l}
}

// text writes any value of api.Term, so that just those that are the same have the same text.
func text(t api.Term) string {
	var b strings.Builder
	b.WriteString(strconv.Itoa(t.Kind) + ":" + strconv.Itoa(t.N) + ":" + strconv.Quote(t.S))
	for _, arg := range t.L {
		b.WriteString("(" + text(arg) + ")")
	}
	return b.String()
}

// nested answers a term that many levels above the inner one.
func nested(levels int, inner api.Term) api.Term {
	for range levels {
		inner = c("s", inner)
	}
	return inner
}

// wide answers a term of 16^levels leaves.
func wide(levels int, leaf api.Term) api.Term {
	if levels == 0 {
		return leaf
	}
	l := make([]api.Term, 16)
	for j := range l {
		l[j] = wide(levels-1, leaf)
	}
	return c("w", l...)
}

// bad are terms that may not be, with what is told of them.
var bad = []struct {
	what string
	term api.Term
	want api.Errno
}{
	{"nothing", api.Term{}, api.ErrTerm},
	{"kind 5", api.Term{Kind: 5}, api.ErrTerm},
	{"variable -1", v(-1), api.ErrTerm},
	{"variable too great", v(api.MaxVar), api.ErrTerm},
	{"variable with a name", api.Term{Kind: api.KindVar, S: "X"}, api.ErrTerm},
	{"integer too great", i(api.MaxInt + 1), api.ErrTerm},
	{"name too long", a(strings.Repeat("a", 65)), api.ErrTerm},
	{"compound without arguments", c("f"), api.ErrTerm},
	{"nothing within a compound", c("f", i(1), api.Term{}), api.ErrTerm},
	{"201 levels", nested(200, a("a")), api.ErrDepth},
	{"4369 parts", wide(3, a("a")), api.ErrMany},
}

// unifies checks whether two terms are unified.
func unifies(t *testing.T, s *subst.Subst, x, y api.Term, want bool) {
	t.Helper()
	if ok, e := s.Unify(x, y); ok != want || e != api.OK {
		t.Errorf("Unify(%.80s, %.80s) = %v, %d, not %v", text(x), text(y), ok, e, want)
	}
}

// isBound checks what a variable is bound to.
func isBound(t *testing.T, s *subst.Subst, n int, want api.Term) {
	t.Helper()
	if x, is := s.Bound(n); !is || text(x) != text(want) {
		t.Errorf("variable %d is bound to %.80s, %v, not to %.80s", n, text(x), is, text(want))
	}
}

// has checks which variables are bound, in order.
func has(t *testing.T, s *subst.Subst, order ...int) {
	t.Helper()
	if got := s.Order(); s.Len() != len(order) || !slices.Equal(got, order) {
		t.Errorf("%d bindings, of %v, not of %v", s.Len(), got, order)
	}
}

// comes checks what a term comes to.
func comes(t *testing.T, s *subst.Subst, x, want api.Term) {
	t.Helper()
	if got, e := s.Apply(x); e != api.OK || !reflect.DeepEqual(got, want) {
		t.Errorf("Apply(%.80s) = %.80s, %d, not %.80s", text(x), text(got), e, text(want))
	}
}

// P12.1: a Subst without bindings.
func TestNew(t *testing.T) {
	s := subst.New()
	has(t, s)
	for _, x := range []api.Term{v(0), v(api.MaxVar - 1), i(-1), a(""), c("f", v(0), c("g", v(1)))} {
		if got := s.Walk(x); !reflect.DeepEqual(got, x) {
			t.Error(text(got))
		}
		comes(t, s, x, x)
		unifies(t, s, x, x, true)
	}
	has(t, s)
	for _, n := range []int{0, -1, api.MaxVar - 1, api.MaxVar} {
		if x, is := s.Bound(n); is || !reflect.DeepEqual(x, api.Term{}) {
			t.Error(n, x, is)
		}
	}
	for n, want := range map[int]api.Errno{-1: api.ErrArg, 0: api.OK, 1: api.ErrArg} {
		if e := s.Undo(n); e != want {
			t.Error(n, e)
		}
	}
	if other := subst.New(); other == s {
		t.Error("twice the same")
	}
}

// P12.1: the example, and which variable is bound to what.
func TestUnify(t *testing.T) {
	f := func(l ...api.Term) api.Term { return c("f", l...) }
	x, y, z := v(0), v(1), v(2)
	type bonds = map[int]api.Term
	for _, k := range []struct {
		a, b  api.Term
		order []int
		bonds bonds
	}{
		{f(x, a("b")), f(a("a"), y), []int{0, 1}, bonds{0: a("a"), 1: a("b")}},
		{x, y, []int{0}, bonds{0: y}}, {y, x, []int{1}, bonds{1: x}}, {x, x, nil, nil},
		{x, i(1), []int{0}, bonds{0: i(1)}}, {i(1), x, []int{0}, bonds{0: i(1)}}, {x, f(y), []int{0}, bonds{0: f(y)}}, {f(y), x, []int{0}, bonds{0: f(y)}},
		{f(x, y), f(y, x), []int{0}, bonds{0: y}}, {f(x, x), f(y, z), []int{0, 1}, bonds{0: y, 1: z}}, {f(x, y, z), f(y, z, x), []int{0, 1}, bonds{0: y, 1: z}}, {f(z, y, x), f(y, x, z), []int{2, 1}, bonds{2: y, 1: x}},
		{f(x, x), f(y, i(1)), []int{0, 1}, bonds{0: y, 1: i(1)}}, {f(i(1), x), f(x, x), []int{0}, bonds{0: i(1)}}, {f(x, y), f(f(y), i(1)), []int{0, 1}, bonds{0: f(y), 1: i(1)}}, {f(y, x), f(i(1), f(y)), []int{1, 0}, bonds{0: f(y), 1: i(1)}},
		// A variable is bound to what another one is bound to.
		{f(x, y), f(i(1), x), []int{0, 1}, bonds{0: i(1), 1: i(1)}}, {f(x, x), f(f(z), y), []int{0, 1}, bonds{0: f(z), 1: f(z)}}, {f(x, y), f(y, f(z)), []int{0, 1}, bonds{0: y, 1: f(z)}},
		{f(x, x), f(f(y), f(z)), []int{0, 1}, bonds{0: f(y), 1: z}}, {f(f(y), f(z)), f(x, x), []int{0, 2}, bonds{0: f(y), 2: y}},
		{f(f(f(x)), y), f(f(f(i(1))), x), []int{0, 1}, bonds{0: i(1), 1: i(1)}},
		{a("a"), a("a"), nil, nil}, {i(-1), i(-1), nil, nil}, {f(i(1), f(a("a"))), f(i(1), f(a("a"))), nil, nil},
		{v(api.MaxVar - 1), x, []int{api.MaxVar - 1}, bonds{api.MaxVar - 1: x}}, {a(""), x, []int{0}, bonds{0: a("")}},
	} {
		own := subst.New()
		unifies(t, own, k.a, k.b, true)
		alone, ok := subst.Unify(k.a, k.b)
		if !ok || alone == nil {
			t.Errorf("Unify(%s, %s): %v", text(k.a), text(k.b), ok)
			continue
		}
		for _, s := range []*subst.Subst{own, alone} {
			has(t, s, k.order...)
			for n, want := range k.bonds {
				isBound(t, s, n, want)
			}
		}
	}
}

// P12.1, P12.2: what is not unified leaves the bindings as they were.
func TestNotUnified(t *testing.T) {
	f := func(l ...api.Term) api.Term { return c("f", l...) }
	x, y, z := v(0), v(1), v(2)
	for _, k := range [][2]api.Term{
		{i(1), i(2)}, {i(1), i(-1)}, {a("a"), a("b")}, {a("a"), i(0)}, {a(""), i(0)}, {a("a"), f(i(1))}, {a("f"), f(i(1))}, {i(0), f(i(1))}, {f(x), c("g", x)}, {f(x), f(x, y)}, {f(f(x)), f(c("g", x))}, {f(i(1), a("a")), f(i(1), a("b"))},
		{x, f(x)}, {f(x), x}, {x, f(i(1), f(f(x)))}, {f(x, y), f(f(y), f(x))}, {f(x, y), f(y, f(x))}, {f(x, y, z), f(f(y), f(z), f(x))}, {f(x, y), f(y, f(y))}, {f(y, x), f(f(x), y)}, {f(x, f(x)), f(f(y), y)}, {f(x, x), f(y, f(y))},
		{f(x, i(1)), f(i(2), x)}, {f(x, y, i(1)), f(y, i(2), x)}, {f(x, y, z, a("a")), f(y, z, i(1), a("b"))}, {f(x, x), f(f(y, i(1)), f(i(2), y))},
		// What was held against one thing is held against another one, too.
		{f(x, x, x), f(f(y), f(i(1)), f(i(2)))}, {f(f(y), f(i(1)), f(i(2))), f(x, x, x)}, {f(x, y, x, x), f(f(i(1)), f(i(2)), f(i(1)), y)}, {f(x, y, z, x, x), f(f(i(1)), f(i(1)), f(i(2)), y, z)}, {f(f(i(1)), f(i(1)), f(i(2)), y, z), f(x, y, z, x, x)},
	} {
		if s, ok := subst.Unify(k[0], k[1]); s != nil || ok {
			t.Errorf("Unify(%s, %s): %v", text(k[0]), text(k[1]), ok)
		}
		s := subst.New()
		unifies(t, s, k[0], k[1], false)
		has(t, s)
		// Behind some bindings, of other variables, and of one that the terms have.
		unifies(t, s, f(v(7), v(5)), f(v(6), f(v(7))), true)
		for range 2 {
			unifies(t, s, k[0], k[1], false)
			has(t, s, 7, 5)
			isBound(t, s, 7, v(6))
			isBound(t, s, 5, f(v(7)))
		}
		comes(t, s, f(x, y, z, v(5), v(6)), f(x, y, z, f(v(6)), v(6)))
		unifies(t, s, v(6), z, true)
		unifies(t, s, k[0], k[1], false)
		has(t, s, 7, 5, 6)
	}
}

// P12.1: a variable that lies in a term by way of bound variables.
func TestLiesWithin(t *testing.T) {
	s := subst.New()
	for n := range 9 {
		unifies(t, s, v(n), c("f", v(n+1), i(n)), true)
	}
	for n := range 9 {
		unifies(t, s, v(9), v(n), false)
		unifies(t, s, v(n), v(9), false)
		unifies(t, s, c("g", v(20), v(9)), c("g", v(n), v(20)), false)
		has(t, s, 0, 1, 2, 3, 4, 5, 6, 7, 8)
	}
	unifies(t, s, v(9), v(9), true)
	unifies(t, s, v(10), v(0), true)
	isBound(t, s, 10, c("f", v(1), i(0)))
	unifies(t, s, v(9), c("h", v(11)), true)
	unifies(t, s, v(11), c("h", v(10)), false)
	unifies(t, s, v(11), v(12), true)
	unifies(t, s, v(12), c("h", v(10)), false)
	unifies(t, s, v(12), v(11), true)
	unifies(t, s, v(11), v(9), false)
	has(t, s, 0, 1, 2, 3, 4, 5, 6, 7, 8, 10, 9, 11)
}

// P12.1: chains of variables, walked to their ends.
func TestChains(t *testing.T) {
	for _, up := range []bool{true, false} {
		s := subst.New()
		var order []int
		for n := range 1000 {
			if !up {
				n = 999 - n
			}
			unifies(t, s, v(n), v(n+1), true)
			order = append(order, n)
		}
		has(t, s, order...)
		for n := range 1000 {
			want := n + 1
			if !up {
				want = 1000
			}
			isBound(t, s, n, v(want))
			if x := s.Walk(v(n)); text(x) != text(v(1000)) {
				t.Error(n, text(x))
			}
		}
		unifies(t, s, v(0), v(500), true)
		unifies(t, s, v(1000), v(3), true)
		has(t, s, order...)
		unifies(t, s, v(17), c("f", v(2000)), true)
		has(t, s, append(order, 1000)...)
		if x := s.Walk(v(0)); text(x) != text(c("f", v(2000))) {
			t.Error(text(x))
		}
		unifies(t, s, v(2000), v(0), false)
	}
}

// P12.1, P12.2: terms that may not be, on either side.
func TestBad(t *testing.T) {
	for _, k := range bad {
		s := subst.New()
		unifies(t, s, v(0), i(1), true)
		for _, other := range []api.Term{v(0), v(1), i(1), c("f", v(2)), k.term} {
			for _, pair := range [][2]api.Term{{k.term, other}, {other, k.term}} {
				if ok, e := s.Unify(pair[0], pair[1]); ok || e != k.want {
					t.Errorf("Unify of %s: %v, %d", k.what, ok, e)
				}
				if s, ok := subst.Unify(pair[0], pair[1]); s != nil || ok {
					t.Errorf("Unify of %s alone: %v", k.what, ok)
				}
			}
		}
		has(t, s, 0)
		if x, e := s.Apply(k.term); !reflect.DeepEqual(x, api.Term{}) || e != k.want {
			t.Errorf("Apply of %s: %v, %d", k.what, x, e)
		}
		for _, l := range bad {
			if ok, e := s.Unify(k.term, l.term); ok || e != k.want {
				t.Errorf("Unify of %s and %s: %v, %d", k.what, l.what, ok, e)
			}
		}
	}
}

// P12.1: Walk answers what is no variable that is bound as it is, whatever it is.
func TestWalk(t *testing.T) {
	s := subst.New()
	unifies(t, s, c("f", v(0), v(1)), c("f", v(1), c("g", v(2))), true)
	unifies(t, s, v(2), i(1), true)
	for _, k := range []struct{ x, want api.Term }{
		{v(0), c("g", v(2))}, {v(1), c("g", v(2))}, {v(2), i(1)}, {v(3), v(3)}, {c("f", v(0)), c("f", v(0))}, {c("g", v(2)), c("g", v(2))}, {i(0), i(0)}, {a("a"), a("a")},
	} {
		if got := s.Walk(k.x); !reflect.DeepEqual(got, k.want) {
			t.Errorf("Walk(%s) = %s", text(k.x), text(got))
		}
	}
	for _, k := range bad {
		if got := s.Walk(k.term); text(got) != text(k.term) {
			t.Errorf("Walk of %s: %.80s", k.what, text(got))
		}
	}
	endless := c("e", i(1), i(2))
	endless.L[1] = endless
	endless.L[1].L = endless.L
	if got := s.Walk(endless); !reflect.DeepEqual(got, api.Term{}) {
		t.Error("an endless term")
	}
}

// P12.1: what a term comes to, as large and as deep as it may be, and more than that.
func TestApply(t *testing.T) {
	s := subst.New()
	// Variable n comes to a tree of n levels, 2^n - 1 parts.
	unifies(t, s, v(1), a("a"), true)
	for n := 2; n <= 100; n++ {
		unifies(t, s, v(n), c("d", v(n-1), v(n-1)), true)
	}
	// Variable 1000 + n comes to one of n levels more than variable 2000.
	for n := 0; n < 300; n++ {
		unifies(t, s, v(1001+n), c("s", v(1000+n)), true)
	}
	unifies(t, s, v(1000), v(2000), true)
	tree := a("a")
	for range 11 {
		tree = c("d", tree, tree)
	}
	comes(t, s, v(12), tree)
	comes(t, s, c("s", v(12)), c("s", tree))
	comes(t, s, v(1199), nested(199, v(2000)))
	comes(t, s, nested(199, v(1000)), nested(199, v(2000)))
	comes(t, s, nested(190, v(4)), nested(190, c("d", c("d", c("d", a("a"), a("a")), c("d", a("a"), a("a"))), c("d", c("d", a("a"), a("a")), c("d", a("a"), a("a"))))))
	for _, k := range []struct {
		what string
		x    api.Term
		want api.Errno
	}{
		{"4096 parts", c("s", v(12)), api.OK}, {"4097 parts", c("s", c("s", v(12))), api.ErrMany}, {"4097 parts, the last a variable", c("s", v(12), v(0)), api.ErrMany}, {"4097 parts, the first one", c("s", a("a"), v(12)), api.ErrMany}, {"8191 parts", v(13), api.ErrMany}, {"2^100 parts", v(100), api.ErrMany},
		{"200 levels", v(1199), api.OK}, {"201 levels", v(1200), api.ErrDepth}, {"201 levels, a little", nested(1, v(1199)), api.ErrDepth}, {"201 levels, a little more", nested(199, v(1001)), api.ErrDepth}, {"301 levels", v(1300), api.ErrDepth},
		{"201 levels and 4095 parts", nested(189, v(12)), api.ErrMany}, {"202 levels and 4095 parts more", c("f", v(1200), v(12)), api.ErrMany}, {"201 levels, 8191 parts", c("f", v(13), v(1200)), api.ErrMany}, {"many levels, behind all", c("f", v(11), v(11), v(1300)), api.ErrMany}, {"many levels, not many parts", c("f", v(11), v(10), v(1300)), api.ErrDepth},
	} {
		x, e := s.Apply(k.x)
		if e != k.want || e != api.OK && !reflect.DeepEqual(x, api.Term{}) {
			t.Errorf("Apply: %s: %.80s, %d", k.what, text(x), e)
		}
	}
	// Terms that come to too much are unified all the same.
	unifies(t, s, v(100), v(100), true)
	unifies(t, s, v(3000), v(100), true)
	unifies(t, s, v(100), v(3000), true)
	unifies(t, s, v(100), v(99), false)
	unifies(t, s, v(1300), v(1299), false)
	if n := s.Len(); n != 402 {
		t.Error(n)
	}
}

// P12.1: Undo, and what is bound behind it.
func TestUndo(t *testing.T) {
	s := subst.New()
	unifies(t, s, c("f", v(3), v(1), v(4), v(0)), c("f", i(1), v(2), c("g", v(1)), a("a")), true)
	has(t, s, 3, 1, 4, 0)
	for _, n := range []int{-1, 5, 6, 1 << 62, -1 << 63} {
		if e := s.Undo(n); e != api.ErrArg {
			t.Error(n, e)
		}
		has(t, s, 3, 1, 4, 0)
	}
	if e := s.Undo(4); e != api.OK {
		t.Error(e)
	}
	has(t, s, 3, 1, 4, 0)
	if e := s.Undo(2); e != api.OK {
		t.Error(e)
	}
	has(t, s, 3, 1)
	isBound(t, s, 3, i(1))
	isBound(t, s, 1, v(2))
	for _, n := range []int{4, 0} {
		if x, is := s.Bound(n); is || !reflect.DeepEqual(x, api.Term{}) {
			t.Error(n, x, is)
		}
	}
	comes(t, s, c("f", v(0), v(1), v(3), v(4)), c("f", v(0), v(2), i(1), v(4)))
	unifies(t, s, c("f", v(4), v(2)), c("f", i(2), v(4)), true)
	has(t, s, 3, 1, 4, 2)
	unifies(t, s, c("f", v(0), v(2)), c("f", i(2), v(3)), false)
	has(t, s, 3, 1, 4, 2)
	comes(t, s, v(1), i(2))
	for n := 3; n >= 0; n-- {
		if e := s.Undo(n); e != api.OK {
			t.Error(n, e)
		}
		has(t, s, []int{3, 1, 4}[:n]...)
	}
	unifies(t, s, v(3), i(5), true)
	isBound(t, s, 3, i(5))
	has(t, s, 3)
}

// P12.1: of a Subst that New did not make.
func TestNone(t *testing.T) {
	for _, s := range []*subst.Subst{nil, {}} {
		for _, x := range []api.Term{v(0), i(1), {}, nested(200, a("a"))} {
			if ok, e := s.Unify(x, i(1)); ok || e != api.ErrClosed {
				t.Error(ok, e)
			}
			if ok, e := s.Unify(i(1), x); ok || e != api.ErrClosed {
				t.Error(ok, e)
			}
			if y := s.Walk(x); !reflect.DeepEqual(y, api.Term{}) {
				t.Error(y)
			}
			if y, e := s.Apply(x); !reflect.DeepEqual(y, api.Term{}) || e != api.ErrClosed {
				t.Error(y, e)
			}
		}
		for _, n := range []int{0, 1, -1} {
			if x, is := s.Bound(n); !reflect.DeepEqual(x, api.Term{}) || is {
				t.Error(x, is)
			}
			if e := s.Undo(n); e != api.ErrClosed {
				t.Error(e)
			}
		}
		if s.Len() != 0 || len(s.Order()) != 0 {
			t.Error(s.Len(), s.Order())
		}
	}
}

// P12.1: terms that have very many parts in common, by way of variables, are held against each other all the same.
func TestManyInCommon(t *testing.T) {
	const most = 1000
	// Each variable comes to two of the next one; of the variables from 10000 on, and those from 20000 on, likewise, but a level in between.
	s := subst.New()
	for n := range most {
		for _, first := range []int{0, 5000} {
			next := v(first + n + 1)
			unifies(t, s, v(first+n), c("f", next, next), true)
		}
		for _, first := range []int{10000, 20000} {
			next := v(first + n + 1)
			unifies(t, s, v(first+n), c("f", c("f", next, next), c("f", next, next)), true)
		}
	}
	before := s.Len()
	for _, pair := range [][2]api.Term{
		{v(0), v(5000)}, {v(5000), v(0)}, {v(0), v(0)}, {v(10000), v(20000)},
		{v(0), v(10000 + most/2)}, {v(10000), v(0)}, {v(5000), v(20000)},
		// Never two variables stand against each other.
		{v(10000), c("f", v(20000), v(20000))}, {c("f", v(10000), v(10000)), v(20000)},
		{c("g", slices.Repeat([]api.Term{v(0)}, 16)...), c("g", slices.Repeat([]api.Term{v(5000)}, 16)...)},
	} {
		ok, e := s.Unify(pair[0], pair[1])
		if e != api.OK {
			t.Error(e)
		}
		if ok {
			again, e := s.Unify(pair[1], pair[0])
			if !again || e != api.OK {
				t.Error("once, but not again", e)
			}
			n := s.Len()
			unifies(t, s, pair[0], pair[1], true)
			if s.Len() != n {
				t.Error("bound once more")
			}
		}
		if e := s.Undo(before); e != api.OK {
			t.Error(e)
		}
	}
	unifies(t, s, v(0), v(5000), true)
	has(t, s, append(s.Order()[:before:before], most)...)
	isBound(t, s, most, v(5000+most))
	// They are alike but for the innermost ones.
	unifies(t, s, v(5000+most), i(1), true)
	unifies(t, s, v(10000+most), i(2), true)
	unifies(t, s, v(20000+most), i(3), true)
	unifies(t, s, v(10000), v(20000), false)
	unifies(t, s, v(0), v(10000+most/2), false)
	unifies(t, s, v(30000), c("h", v(0), v(10000), v(20000)), true)
	unifies(t, s, c("h", v(40000), v(40000)), c("h", v(30000), c("h", v(5000), v(10000), v(20001))), false)
	for n := range most {
		unifies(t, s, v(n), v(5000+n), true)
	}
}

// P12.1: bindings lead far deeper than a term may be, in the first argument and in the last.
func TestDeep(t *testing.T) {
	const most = 1500
	s := subst.New()
	for n := range most {
		for _, first := range []int{0, 5000} {
			x := v(first + n + 1)
			for j := range 150 {
				if n%2 == 0 {
					x = c("f", x, i(j))
				} else {
					x = c("f", i(j), x)
				}
			}
			unifies(t, s, v(first+n), x, true)
		}
	}
	before := s.Len()
	unifies(t, s, v(0), v(5000), true)
	if n := s.Len(); n != before+1 {
		t.Error(n)
	}
	isBound(t, s, most, v(5000+most))
	unifies(t, s, v(5000+most), c("g", v(0)), false)
	unifies(t, s, v(0), c("f", v(5000), i(1)), false)
	unifies(t, s, v(5000+most), i(1), true)
	unifies(t, s, v(5000), v(0), true)
	if _, e := s.Apply(v(0)); e != api.ErrMany {
		t.Error(e)
	}
}

// P12.1: variables are bound one upon the other, from the innermost one on, and taken back.
func TestFromInnermost(t *testing.T) {
	const most = 20000
	s := subst.New()
	for round := range 2 {
		for n := range most {
			unifies(t, s, v(n+1), c("f", v(n), v(n)), true)
		}
		unifies(t, s, v(0), v(most), false)
		unifies(t, s, v(0), c("f", v(most+1), v(most)), false)
		unifies(t, s, v(most+1), c("f", v(0), v(most)), true)
		unifies(t, s, v(0), v(most+1), false)
		unifies(t, s, v(0), c("f", v(most+2)), true)
		unifies(t, s, v(most+2), c("f", v(1)), false)
		if e := s.Undo((1 - round) * most / 2); e != api.OK {
			t.Error(e)
		}
		if round == 0 {
			unifies(t, s, v(0), v(most/2), false)
			unifies(t, s, v(most/2+1), v(most/2), true)
			unifies(t, s, v(0), v(most/2+1), false)
			if e := s.Undo(0); e != api.OK {
				t.Error(e)
			}
		}
	}
	has(t, s)
	unifies(t, s, v(0), v(most), true)
	unifies(t, s, v(most), c("f", v(0)), false)
}

// places are all places of terms that the lists of a term have, their spare room among them.
func places(l []api.Term) []*api.Term {
	var all []*api.Term
	spare := l[:cap(l)]
	for j := range spare {
		all = append(all, &spare[j])
	}
	for _, x := range l {
		all = append(all, places(x.L)...)
	}
	return all
}

// R3: what is handed in is neither changed nor kept, and what is answered is new.
func TestOwnMemory(t *testing.T) {
	room := []api.Term{c("g", v(1), c("h", v(2))), i(1), {Kind: 9}}
	x := c("f", room[:2]...)
	y := c("f", v(0), v(3))
	before := text(x) + text(y)
	s := subst.New()
	unifies(t, s, x, y, true)
	unifies(t, s, v(4), v(0), true)
	if text(x)+text(y) != before || room[2].Kind != 9 {
		t.Error(text(x), text(y), room[2])
	}
	want := text(room[0])
	seen := map[*api.Term]bool{}
	for _, p := range append(places([]api.Term{x}), places([]api.Term{y})...) {
		seen[p] = true
	}
	for round := range 3 {
		b, is := s.Bound(0)
		w, applied := s.Walk(v(4)), api.Term{}
		given := c("k", v(0), c("l", i(1)))
		applied, e := s.Apply(given)
		walked := s.Walk(given)
		if !is || e != api.OK || text(b) != want || text(w) != want || text(applied.L[0]) != want || text(walked) != text(given) {
			t.Fatal(round, text(b), text(w), text(applied), text(walked), e)
		}
		for _, p := range places(given.L) {
			seen[p] = true
		}
		for _, answer := range []api.Term{b, w, applied, walked} {
			for _, p := range places(answer.L) {
				if seen[p] {
					t.Fatal("an answer shares memory")
				}
				seen[p] = true
				*p = api.Term{}
			}
		}
		order := s.Order()
		if !slices.Equal(order, []int{0, 3, 4}) {
			t.Fatal(order)
		}
		for j := range order[:cap(order)] {
			order[:cap(order)][j] = 77
		}
		for _, p := range append(places(x.L), places(y.L)...) {
			*p = i(round)
		}
	}
	// Empty lists are none.
	s = subst.New()
	unifies(t, s, api.Term{Kind: api.KindVar, L: []api.Term{}}, api.Term{Kind: api.KindAtom, S: "a", L: make([]api.Term, 0, 3)}, true)
	isBound(t, s, 0, a("a"))
	comes(t, s, api.Term{Kind: api.KindInt, N: 3, L: []api.Term{}}, i(3))
}

// R4: what is bound in one is not in another.
func TestApart(t *testing.T) {
	r, s := subst.New(), subst.New()
	unifies(t, r, v(0), i(1), true)
	unifies(t, s, v(0), i(2), true)
	unifies(t, s, v(1), i(3), true)
	has(t, r, 0)
	isBound(t, r, 0, i(1))
	isBound(t, s, 0, i(2))
	one, _ := subst.Unify(v(0), v(1))
	two, _ := subst.Unify(v(0), v(1))
	unifies(t, one, v(1), i(1), true)
	has(t, two, 0)
}
