package subst

import (
	"slices"
	"strings"

	"elenchus/api"
	"elenchus/term"
)

// Bindings may lead through far more terms than one term has parts, and far deeper: so what is still to be done is noted in lists.

// unifier unifies two terms, binding variables. All terms that it holds against each other are the bindings' own.
type unifier struct {
	*Subst
	rest [][2]api.Term             // what is to be held against each other, the next one last
	held map[[2]*api.Term]struct{} // which compounds, known by where their arguments begin, were held against each other
}

// unify tells whether the terms were unified.
func (u *unifier) unify(a, b api.Term) bool {
	u.later(a, b)
	for len(u.rest) > 0 {
		last := len(u.rest) - 1
		next := u.rest[last]
		u.rest = u.rest[:last]
		if !u.hold(next[0], next[1]) {
			return false
		}
	}
	return true
}

// later notes that the terms are to be held against each other ahead of all that was noted before.
func (u *unifier) later(a, b api.Term) {
	u.rest = append(u.rest, [2]api.Term{a, b})
}

// hold tells whether the terms may be unified, as far as it is not their arguments that tell, which are noted.
func (u *unifier) hold(a, b api.Term) bool {
	first, second := u.walk(a), u.walk(b)
	switch {
	case isVar(first) && isVar(second) && first.N == second.N:
		return true
	case isVar(first):
		return u.bind(first.N, second)
	case isVar(second):
		return u.bind(second.N, first)
	case first.Kind != second.Kind || first.N != second.N || first.S != second.S || len(first.L) != len(second.L):
		return false
	}
	// Only by way of variables one comes to the same compounds again.
	if (isVar(a) || isVar(b)) && u.again(first.L, second.L) {
		return true
	}
	backward(first.L, second.L, u.later)
	return true
}

// again tells whether these arguments, as many of both, are the same ones, or were held against each other already, and notes that they are.
func (u *unifier) again(a, b []api.Term) bool {
	if len(a) == 0 || &a[0] == &b[0] {
		return true
	}
	both := [2]*api.Term{&a[0], &b[0]}
	if _, is := u.held[both]; is {
		return true
	}
	if u.held == nil {
		u.held = make(map[[2]*api.Term]struct{})
	}
	u.held[both] = struct{}{}
	return false
}

// bind binds the variable to the term, unless it lies within that.
func (u *unifier) bind(n int, t api.Term) bool {
	if u.lies(n, t) {
		return false
	}
	u.terms[n] = t
	u.order = append(u.order, n)
	u.count(t, 1)
	return true
}

// lies tells whether the variable lies within the term, bound variables being gone through, each once.
func (s *Subst) lies(n int, t api.Term) bool {
	// One that stands in no term that a variable is bound to is not come to by way of these.
	_, far := s.places[n]
	var through map[int]struct{}
	rest := []api.Term{t}
	for len(rest) > 0 {
		last := len(rest) - 1
		part := rest[last]
		rest = append(rest[:last], part.L...)
		if !isVar(part) {
			continue
		}
		if part.N == n {
			return true
		}
		bound, is := s.terms[part.N]
		if !is || !far {
			continue
		}
		if _, was := through[part.N]; was {
			continue
		}
		if through == nil {
			through = make(map[int]struct{})
		}
		through[part.N] = struct{}{}
		rest = append(rest, bound)
	}
	return false
}

// isVar tells whether the term is a variable.
func isVar(t api.Term) bool {
	return t.Kind == api.KindVar
}

// backward hands on what stands at the same places of two lists of one length, the last ones first.
func backward(a, b []api.Term, hand func(a, b api.Term)) {
	for i, x := range slices.Backward(a) {
		hand(x, b[i])
	}
}

// own answers a term that may be in memory of its own, its names too: a part of a long text would keep all of it from being given up.
func own(t api.Term) api.Term {
	t.S = strings.Clone(t.S)
	t.L = changed(t.L, own)
	return t
}

// changed answers the list of what a function makes of each of these.
func changed(l []api.Term, change func(t api.Term) api.Term) []api.Term {
	if len(l) == 0 {
		return nil
	}
	all := make([]api.Term, len(l))
	for i, t := range l {
		all[i] = change(t)
	}
	return all
}

// copied answers a term, or what is none, in memory of its own; nothing, if it is far too large for that.
func copied(t api.Term) api.Term {
	around := term.Comp("", t)
	if len(around.L) == 0 {
		return api.Term{}
	}
	return around.L[0]
}
