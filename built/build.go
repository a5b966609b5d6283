package built

import (
	"elenchus/api"
	"elenchus/term"
)

// functor is functor(T, N, A).
func functor(l []api.Term, next int) api.Result {
	t := l[0]
	if t.Kind == api.KindVar {
		return shaped(t, l[1], l[2], next)
	}
	return unify(l[1], nameOf(t), l[2], term.Int(len(t.L)))
}

// shaped is functor(T, N, A) of a variable T.
func shaped(t, name, arity api.Term, next int) api.Result {
	switch {
	case name.Kind == api.KindVar || arity.Kind == api.KindVar:
		return unbound()
	case arity.Kind != api.KindInt:
		return wrong("integer", arity)
	case arity.N < 0 || arity.N > api.MaxArity:
		return wrong("arity", arity)
	case arity.N == 0 && name.Kind == api.KindComp:
		return wrong("atomic", name)
	case arity.N == 0:
		return unify(t, name)
	case name.Kind != api.KindAtom:
		return wrong("atom", name)
	}
	return unify(t, term.Comp(name.S, variables(arity.N, next)...))
}

// argument is arg(N, T, A).
func argument(l []api.Term, _ int) api.Result {
	place, t := l[0], l[1]
	switch {
	case place.Kind == api.KindVar:
		return unbound()
	case place.Kind != api.KindInt:
		return wrong("integer", place)
	case t.Kind == api.KindVar:
		return unbound()
	case t.Kind != api.KindComp:
		return wrong("compound", t)
	case place.N < 1 || place.N > len(t.L):
		return told(false)
	}
	return unify(l[2], t.L[place.N-1])
}

// univ is =..(T, L).
func univ(l []api.Term, _ int) api.Result {
	t := l[0]
	if t.Kind == api.KindVar {
		return listed(t, l[1])
	}
	row := append([]api.Term{nameOf(t)}, t.L...)
	return unify(l[1], term.List(row, term.Atom("[]")))
}

// listed is =..(T, L) of a variable T.
func listed(t, list api.Term) api.Result {
	row, tail := term.Items(list)
	switch {
	case tail.Kind == api.KindVar:
		return unbound()
	case tail.Kind != api.KindAtom || tail.S != "[]" || len(row) == 0:
		return wrong("list", list)
	}
	first, args := row[0], row[1:]
	switch {
	case first.Kind == api.KindVar:
		return unbound()
	case first.Kind == api.KindComp && len(args) == 0:
		return wrong("atomic", first)
	case len(args) == 0:
		return unify(t, first)
	case first.Kind != api.KindAtom:
		return wrong("atom", first)
	case len(args) > api.MaxArity:
		return tooLarge()
	}
	return unify(t, term.Comp(first.S, args...))
}

// renamed is copy_term(X, Y).
func renamed(l []api.Term, next int) api.Result {
	t, n := term.Rename(l[0])
	return unify(l[1], term.Replace(t, variables(n, next)))
}

// nameOf answers what a term that is no variable goes by: an integer by itself.
func nameOf(t api.Term) api.Term {
	if t.Kind == api.KindInt {
		return t
	}
	return term.Atom(t.S)
}

// variables answers n variables, whose numbers are those from next on.
func variables(n, next int) []api.Term {
	l := make([]api.Term, n)
	for i := range l {
		l[i] = term.Var(next + i)
	}
	return l
}
