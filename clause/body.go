package clause

import (
	"slices"

	"elenchus/api"
	"elenchus/arith"
	"elenchus/term"
)

// What is handed to the functions below shares lists with what they answer; it is the exported ones that answer memory of its own.

// body is what stands in a clause's body.
type body struct {
	goals    []api.Goal
	integers []api.Term // what stands where a goal should
}

// add puts the goals of a term that may be behind the others.
func (b *body) add(t api.Term) {
	switch {
	case goesBy(t, ",", 2):
		b.add(t.L[0])
		b.add(t.L[1])
	case t.Kind == api.KindInt:
		b.integers = append(b.integers, t)
	case !goesBy(t, "true", 0):
		b.goals = append(b.goals, api.Goal{Kind: kind(t), Term: t})
	}
}

// tooMany tells whether there are more goals than a clause has.
func (b *body) tooMany() bool {
	return len(b.goals) > api.MaxGoals
}

// uncallable answers the ball of the first integer that stands where a goal should, if there is one.
func (b *body) uncallable() (api.Term, bool) {
	if len(b.integers) == 0 {
		return api.Term{}, false
	}
	return arith.Type("callable", b.integers[0]), true
}

// kind answers which kind of goal the term is, which is no integer.
func kind(t api.Term) int {
	switch {
	case t.Kind == api.KindVar:
		return api.GoalVar
	case goesBy(t, "!", 0):
		return api.GoalCut
	case goesBy(t, ";", 2), goesBy(t, "->", 2), goesBy(t, "\\+", 1):
		return api.GoalBody
	}
	return api.GoalCall
}

// goesBy tells whether the term is the atom of that name (of no arguments), or a compound of that name and so many arguments.
func goesBy(t api.Term, name string, arity int) bool {
	isNamed := t.Kind == api.KindAtom || t.Kind == api.KindComp
	return isNamed && t.S == name && len(t.L) == arity
}

// parted answers the head of a clause's term, and its body.
func parted(t api.Term) (api.Term, body) {
	var b body
	if !goesBy(t, ":-", 2) {
		return t, b
	}
	b.add(t.L[1])
	return t.L[0], b
}

// wrongHead answers the ball of a term that may not be a clause's head, if it may not.
func wrongHead(t api.Term) (api.Term, bool) {
	if ball, is := unnamed(t); is {
		return ball, true
	}
	if Builtin(t.S, len(t.L)) {
		return arith.Error(term.Comp("perm", arith.Indicator(t))), true
	}
	return api.Term{}, false
}

// unnamed answers the ball of a variable or an integer, if the term is one.
func unnamed(t api.Term) (api.Term, bool) {
	switch t.Kind {
	case api.KindVar:
		return arith.Error(), true
	case api.KindInt:
		return arith.Type("callable", t), true
	}
	return api.Term{}, false
}

// called answers the term that a goal is of.
func called(g api.Goal) api.Term {
	if g.Kind == api.GoalCut {
		return term.Atom("!")
	}
	return g.Term
}

// both makes the compound of two arguments.
func both(name string, left, right api.Term) api.Term {
	return named(name, []api.Term{left, right})
}

// named makes the compound of that name and of the arguments of all these lists, the atom if there are none.
func named(name string, lists ...[]api.Term) api.Term {
	args := slices.Concat(lists...)
	if len(args) == 0 {
		return term.Atom(name)
	}
	return api.Term{Kind: api.KindComp, S: name, L: args}
}
