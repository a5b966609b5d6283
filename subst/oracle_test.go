package subst_test

import (
	"slices"
	"testing"

	"elenchus/api"
	"elenchus/subst"
	"elenchus/term"
)

// Unification again, as plainly as can be: bindings are a list, which is handed on, and nothing is noted of what was held against each other.

// bond is a variable, and what it is bound to.
type bond struct {
	n int
	t api.Term
}

// look answers what a term is looked at as.
func look(bonds []bond, t api.Term) api.Term {
	for _, b := range bonds {
		if t.Kind == api.KindVar && t.N == b.n {
			return look(bonds, b.t)
		}
	}
	return t
}

// comesTo answers what a term comes to.
func comesTo(bonds []bond, t api.Term) api.Term {
	t = look(bonds, t)
	var l []api.Term
	for _, arg := range t.L {
		l = append(l, comesTo(bonds, arg))
	}
	t.L = l
	return t
}

// unified answers the bindings that unify two terms, if there are any.
func unified(bonds []bond, a, b api.Term) ([]bond, bool) {
	a, b = look(bonds, a), look(bonds, b)
	if a.Kind == api.KindVar && b.Kind == api.KindVar && a.N == b.N {
		return bonds, true
	}
	if a.Kind == api.KindVar {
		return slices.Concat(bonds, []bond{{a.N, b}}), !slices.Contains(term.Vars(comesTo(bonds, b)), a.N)
	}
	if b.Kind == api.KindVar {
		return unified(bonds, b, a)
	}
	if a.Kind != b.Kind || a.N != b.N || a.S != b.S || len(a.L) != len(b.L) {
		return nil, false
	}
	for i := range a.L {
		ok := false
		if bonds, ok = unified(bonds, a.L[i], b.L[i]); !ok {
			return nil, false
		}
	}
	return bonds, true
}

// agrees checks all that the bindings tell.
func agrees(t *testing.T, s *subst.Subst, bonds []bond, terms ...api.Term) {
	t.Helper()
	var order []int
	for _, b := range bonds {
		order = append(order, b.n)
	}
	if got := s.Order(); s.Len() != len(bonds) || !slices.Equal(got, order) {
		t.Fatalf("%d bindings, of %v, not of %v", s.Len(), got, order)
	}
	for n := -1; n < 8; n++ {
		place := slices.Index(order, n)
		x, is := s.Bound(n)
		switch {
		case is != (place >= 0), !is && text(x) != text(api.Term{}), is && text(x) != text(bonds[place].t):
			t.Fatalf("variable %d is bound to %s, %v", n, text(x), is)
		}
	}
	for _, x := range append(terms, v(0), v(1), v(2), v(3), v(7)) {
		if got, want := s.Walk(x), look(bonds, x); text(got) != text(want) {
			t.Fatalf("Walk(%s) = %s, not %s", text(x), text(got), text(want))
		}
		if got, e := s.Apply(x); e != api.OK || text(got) != text(comesTo(bonds, x)) {
			t.Fatalf("Apply(%s) = %s, %d, not %s", text(x), text(got), e, text(comesTo(bonds, x)))
		}
	}
}

// layer answers the leaves, and all compounds f of one and g of two of the inner terms.
func layer(leaves, inner []api.Term) []api.Term {
	all := slices.Clone(leaves)
	for _, x := range inner {
		all = append(all, c("f", x))
		for _, y := range inner {
			all = append(all, c("g", x, y))
		}
	}
	return all
}

// P12.1, P12.2, P12.3: all small terms are unified as is meant. If there are terms for the variables that make both the same, they are unified, and come to the same.
func TestAllSmallTerms(t *testing.T) {
	leaves := []api.Term{v(0), v(1), a("a"), i(1)}
	all := layer(leaves, leaves)
	all = append(all, c("g", v(0), c("f", v(1))), c("g", c("f", v(1)), v(0)), c("g", c("f", v(0)), v(1)), c("g", c("g", v(0), v(1)), v(0)), c("g", v(1), c("g", v(0), v(0))), c("f", c("f", v(0))), c("f", c("f", c("f", a("a")))), c("h", v(0)), c("g", v(2), v(0)), c("g", c("f", v(2)), v(2)), v(2))
	ground := []api.Term{a("a"), i(1), c("f", a("a")), c("f", i(1)), c("f", c("f", a("a"))), c("g", a("a"), a("a")), c("g", i(1), i(1)), c("g", a("a"), i(1)), c("g", c("f", a("a")), a("a"))}
	for _, x := range all {
		for _, y := range all {
			bonds, want := unified(nil, x, y)
			s, ok := subst.Unify(x, y)
			if ok != want || ok != (s != nil) {
				t.Fatalf("Unify(%s, %s) = %v", text(x), text(y), ok)
			}
			if ok {
				agrees(t, s, bonds, x, y)
				p, _ := s.Apply(x)
				q, _ := s.Apply(y)
				if !term.Same(p, q) {
					t.Fatalf("%s and %s come to %s and %s", text(x), text(y), text(p), text(q))
				}
				continue
			}
			for _, p := range ground {
				for _, q := range ground {
					for _, r := range ground[:4] {
						if with := []api.Term{p, q, r}; text(put(x, with)) == text(put(y, with)) {
							t.Fatalf("%s and %s are not unified, but are the same with %s, %s, %s", text(x), text(y), text(p), text(q), text(r))
						}
					}
				}
			}
		}
	}
}

// put answers the term with others in the places of its variables.
func put(t api.Term, with []api.Term) api.Term {
	if t.Kind == api.KindVar {
		return with[t.N]
	}
	var l []api.Term
	for _, arg := range t.L {
		l = append(l, put(arg, with))
	}
	t.L = l
	return t
}

// source is numbers in no order, the same ones each time.
type source uint64

// next answers a number from 0 to n - 1.
func (s *source) next(n int) int {
	*s = *s*6364136223846793005 + 1442695040888963407
	return int(uint64(*s)>>33) % n
}

// term answers some term of at most so many levels.
func (s *source) term(levels int) api.Term {
	switch kind := s.next(8); {
	case kind == 0:
		return a([]string{"a", "b", "f"}[s.next(3)])
	case kind == 1:
		return i(s.next(2))
	case kind < 5 || levels == 1:
		return v(s.next(7))
	}
	l := []api.Term{s.term(levels - 1)}
	for s.next(2) == 0 && len(l) < 4 {
		l = append(l, s.term(levels-1))
	}
	return c([]string{"f", "g"}[s.next(2)], l...)
}

// P12.1, P12.3: any terms are unified, one pair behind another, as is meant; those that are not, and what is undone, leave all as it was.
func TestAnyTerms(t *testing.T) {
	r := source(2)
	for range 20000 {
		s := subst.New()
		var bonds []bond
		for range 6 {
			if r.next(4) == 0 {
				n := r.next(len(bonds) + 1)
				if e := s.Undo(n); e != api.OK {
					t.Fatal(n, e)
				}
				bonds = bonds[:n]
				agrees(t, s, bonds)
				continue
			}
			x, y := r.term(4), r.term(4)
			more, want := unified(bonds, x, y)
			ok, e := s.Unify(x, y)
			if ok != want || e != api.OK {
				t.Fatalf("Unify(%s, %s) = %v, %d, with %v", text(x), text(y), ok, e, bonds)
			}
			if ok {
				bonds = more
			}
			agrees(t, s, bonds, x, y)
			if p, q := comesTo(bonds, x), comesTo(bonds, y); ok && text(p) != text(q) {
				t.Fatalf("%s and %s come to %s and %s", text(x), text(y), text(p), text(q))
			}
		}
	}
}

// P12.3: terms that are the same with some terms in the places of variables are unified.
func TestMadeTheSame(t *testing.T) {
	r := source(9)
	for range 20000 {
		with := make([]api.Term, 7)
		for j := range with {
			with[j] = put(r.term(3), slices.Repeat([]api.Term{a("a"), i(1)}, 4))
		}
		// Another term that becomes the same, variables standing elsewhere.
		var other func(t api.Term) api.Term
		other = func(t api.Term) api.Term {
			for n, x := range with {
				if text(put(t, with)) == text(x) && r.next(2) == 0 {
					return v(n)
				}
			}
			if t.Kind == api.KindVar {
				return t
			}
			var l []api.Term
			for _, arg := range t.L {
				l = append(l, other(arg))
			}
			t.L = l
			return t
		}
		x := r.term(5)
		y := other(x)
		x = other(x)
		s, ok := subst.Unify(x, y)
		if !ok {
			t.Fatalf("%s and %s are not unified", text(x), text(y))
		}
		p, e1 := s.Apply(x)
		q, e2 := s.Apply(y)
		if e1 != api.OK || e2 != api.OK || text(p) != text(q) {
			t.Fatalf("%s and %s come to %s, %d and %s, %d", text(x), text(y), text(p), e1, text(q), e2)
		}
	}
}
