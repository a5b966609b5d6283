package built

import (
	"slices"

	"elenchus/api"
	"elenchus/arith"
	"elenchus/order"
	"elenchus/subst"
	"elenchus/term"
)

// What the order (7) answers of two terms.
const (
	ahead = iota - 1
	level
	behind
)

// isOf makes the predicate that holds of a term of one of those kinds.
func isOf(kinds ...int) predicate {
	return func(l []api.Term, _ int) api.Result {
		return told(slices.Contains(kinds, l[0].Kind))
	}
}

// equal is =(X, Y).
func equal(l []api.Term, _ int) api.Result {
	return unify(l[0], l[1])
}

// apart is \=(X, Y).
func apart(l []api.Term, _ int) api.Result {
	_, unified := subst.Unify(l[0], l[1])
	return told(!unified)
}

// alike makes the predicate that holds, if its arguments are the same, or if they are not.
func alike(same bool) predicate {
	return func(l []api.Term, _ int) api.Result {
		return told(term.Same(l[0], l[1]) == same)
	}
}

// inOrder makes the predicate that holds, if the order of its arguments is one of these ways.
func inOrder(ways ...int) predicate {
	return func(l []api.Term, _ int) api.Result {
		way, e := order.Compare(l[0], l[1])
		if e != api.OK {
			return unbound()
		}
		return told(slices.Contains(ways, way))
	}
}

// ordered is compare(O, X, Y).
func ordered(l []api.Term, _ int) api.Result {
	way, e := order.Compare(l[1], l[2])
	if e != api.OK {
		return unbound()
	}
	return unify(l[0], term.Atom(sign(way)))
}

// sign answers the name of what the order answers.
func sign(way int) string {
	switch way {
	case ahead:
		return "<"
	case behind:
		return ">"
	}
	return "="
}

// evaluated is is(X, E).
func evaluated(l []api.Term, _ int) api.Result {
	n, ball, ok := arith.Eval(l[1])
	if !ok {
		return thrown(ball)
	}
	return unify(l[0], term.Int(n))
}

// compared makes the predicate that holds, if the numbers of its arguments are so.
func compared(op string) predicate {
	return func(l []api.Term, _ int) api.Result {
		holds, ball, ok := arith.Compare(op, l[0], l[1])
		if !ok {
			return thrown(ball)
		}
		return told(holds)
	}
}

// length is atom_length(A, N).
func length(l []api.Term, _ int) api.Result {
	switch name := l[0]; name.Kind {
	case api.KindVar:
		return unbound()
	case api.KindAtom:
		return unify(l[1], term.Int(len(name.S)))
	default:
		return wrong("atom", name)
	}
}
