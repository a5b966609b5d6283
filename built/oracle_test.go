package built_test

import (
	"cmp"
	"slices"
	"strconv"
	"strings"
	"testing"

	"elenchus/api"
	"elenchus/arith"
	"elenchus/term"
)

// What is built in again, by other means: a list of rules, of which the first one that fits tells the text of the result; unification rewrites equations, and the order is told by the first marks of two rows that differ.

// rule tells a text, if it fits.
type rule struct {
	fits bool
	text string
}

// first answers the text of the first rule that fits.
func first(l ...rule) string {
	for _, r := range l {
		if r.fits {
			return r.text
		}
	}
	return "no rule"
}

// typed writes the ball of a term that is not of that type.
func typed(name string, x api.Term) string { return "error(type(" + name + "," + text(x) + "))" }

// unified writes that these are to be unified, two by two.
func unified(l ...api.Term) string {
	s := "yes"
	for pair := range slices.Chunk(l, 2) {
		for _, x := range pair {
			if term.Check(x) != api.OK {
				return size
			}
		}
		s += " " + text(pair[0]) + ":" + text(pair[1])
	}
	return s
}

// yes writes whether it holds.
func yes(holds bool) string {
	if holds {
		return "yes"
	}
	return "no"
}

// put answers the term with another one in the place of each variable of that number.
func put(x api.Term, n int, y api.Term) api.Term {
	if x.Kind == api.KindVar && x.N == n {
		return y
	}
	var l []api.Term
	for _, arg := range x.L {
		l = append(l, put(arg, n, y))
	}
	x.L = l
	return x
}

// within tells whether the variable of that number is a part of the term.
func within(n int, x api.Term) bool {
	return x.Kind == api.KindVar && x.N == n || slices.ContainsFunc(x.L, func(arg api.Term) bool { return within(n, arg) })
}

// solved tells whether there are terms for the variables that make both sides of each equation the same.
func solved(equations [][2]api.Term) bool {
	for len(equations) > 0 {
		x, y := equations[0][0], equations[0][1]
		equations = slices.Clone(equations[1:])
		if y.Kind == api.KindVar {
			x, y = y, x
		}
		switch {
		case text(x) == text(y):
		case x.Kind == api.KindVar && within(x.N, y):
			return false
		case x.Kind == api.KindVar:
			for j := range equations {
				for k := range 2 {
					equations[j][k] = put(equations[j][k], x.N, y)
				}
			}
		case x.Kind != api.KindComp || y.Kind != api.KindComp || x.S != y.S || len(x.L) != len(y.L):
			return false
		default:
			for j := range x.L {
				equations = append(equations, [2]api.Term{x.L[j], y.L[j]})
			}
		}
	}
	return true
}

// marks answers the term's parts, one behind the other, each without what lies within it.
func marks(x api.Term) []api.Term {
	row := []api.Term{{Kind: x.Kind, N: x.N + len(x.L), S: x.S}}
	for _, arg := range x.L {
		row = append(row, marks(arg)...)
	}
	return row
}

// way answers how two terms stand in the order; two, if there is none.
func way(x, y api.Term) int {
	l, m := marks(x), marks(y)
	for j := range min(len(l), len(m)) {
		p, q := l[j], m[j]
		if p.Kind == api.KindVar && q.Kind == api.KindVar && p.N != q.N {
			return 2
		}
		if n := cmp.Or(cmp.Compare(p.Kind, q.Kind), cmp.Compare(p.N, q.N), cmp.Compare(p.S, q.S)); n != 0 {
			return n
		}
	}
	return 0
}

// named answers what a term goes by.
func named(x api.Term) api.Term {
	if x.Kind == api.KindComp {
		return a(x.S)
	}
	return x
}

// fresh answers n variables, from a number on.
func fresh(n, next int) []api.Term {
	var l []api.Term
	for j := range n {
		l = append(l, v(next+j))
	}
	return l
}

// functorRules is functor(T, N, A).
func functorRules(x, n, m api.Term, next int) string {
	isInt, isAtom, isComp := m.Kind == api.KindInt, n.Kind == api.KindAtom, n.Kind == api.KindComp
	made := api.Term{}
	if isInt && m.N > 0 && m.N <= 16 {
		made = c(n.S, fresh(m.N, next)...)
	}
	return first(
		rule{x.Kind != api.KindVar, unified(n, named(x), m, i(len(x.L)))},
		rule{n.Kind == api.KindVar, inst},
		rule{m.Kind == api.KindVar, inst},
		rule{!isInt, typed("integer", m)},
		rule{m.N < 0, typed("arity", m)},
		rule{m.N > 16, typed("arity", m)},
		rule{m.N == 0 && isComp, typed("atomic", n)},
		rule{m.N == 0, unified(x, n)},
		rule{!isAtom, typed("atom", n)},
		rule{true, unified(x, made)},
	)
}

// argRules is arg(N, T, A).
func argRules(n, x, y api.Term) string {
	var part api.Term
	if n.N >= 1 && n.N <= len(x.L) {
		part = x.L[n.N-1]
	}
	return first(
		rule{n.Kind == api.KindVar, inst},
		rule{n.Kind != api.KindInt, typed("integer", n)},
		rule{x.Kind == api.KindVar, inst},
		rule{x.Kind != api.KindComp, typed("compound", x)},
		rule{part.Kind == 0, "no"},
		rule{true, unified(y, part)},
	)
}

// univRules is =..(T, L).
func univRules(x, y api.Term) string {
	if x.Kind != api.KindVar {
		return unified(y, list(append([]api.Term{named(x)}, x.L...)...))
	}
	// What the list ends with is looked for from its end.
	var items []api.Term
	tail := y
	for tail.Kind == api.KindComp && tail.S == "." && len(tail.L) == 2 {
		items, tail = append(items, tail.L[0]), tail.L[1]
	}
	var head api.Term
	var made string
	if len(items) > 0 {
		head = items[0]
		made = unified(x, c(head.S, items[1:]...))
	}
	return first(
		rule{tail.Kind == api.KindVar, inst},
		rule{text(tail) != "[]", typed("list", y)},
		rule{len(items) == 0, typed("list", y)},
		rule{head.Kind == api.KindVar, inst},
		rule{len(items) == 1 && head.Kind == api.KindComp, typed("atomic", head)},
		rule{len(items) == 1, unified(x, head)},
		rule{head.Kind != api.KindAtom, typed("atom", head)},
		rule{len(items) > 17, size},
		rule{true, made},
	)
}

// copyRules is copy_term(X, Y).
func copyRules(x, y api.Term, next int) string {
	var seen []int
	for _, m := range marks(x) {
		if m.Kind == api.KindVar && !slices.Contains(seen, m.N) {
			seen = append(seen, m.N)
		}
	}
	// The variables are called by numbers far away first, so that none is taken for another one.
	for j, n := range seen {
		x = put(x, n, v(1<<40+j))
	}
	for j := range seen {
		x = put(x, 1<<40+j, v(next+j))
	}
	return unified(y, x)
}

// kindRules are var, nonvar, atom, integer, compound.
func kindRules(name string, x api.Term) string {
	kind := []string{"", "var", "integer", "atom", "compound"}[x.Kind]
	return yes(kind == name || name == "nonvar" && kind != "var")
}

// orderRules are @<, @>, @=<, @>=.
func orderRules(name string, x, y api.Term) string {
	w := way(x, y)
	return first(
		rule{w == 2, inst},
		rule{w < 0, yes(strings.Contains(name, "<"))},
		rule{w > 0, yes(strings.Contains(name, ">"))},
		rule{true, yes(strings.Contains(name, "="))},
	)
}

// numberRules are is, and what holds numbers against each other.
func numberRules(name string, x, y api.Term) string {
	n, ball, ok := arith.Eval(x)
	m, other, fine := arith.Eval(y)
	return first(
		rule{name == "is" && !fine, text(other)},
		rule{name == "is", unified(x, i(m))},
		rule{!ok, text(ball)},
		rule{!fine, text(other)},
		rule{name == "=:=", yes(n == m)},
		rule{name == "=\\=", yes(n != m)},
		rule{n < m, yes(strings.Contains(name, "<"))},
		rule{n > m, yes(strings.Contains(name, ">"))},
		rule{true, yes(strings.Contains(name, "="))},
	)
}

// meant writes what a call is meant to come to.
func meant(name string, l []api.Term, next int) string {
	switch name {
	case "functor":
		return functorRules(l[0], l[1], l[2], next)
	case "arg":
		return argRules(l[0], l[1], l[2])
	case "compare":
		sign, is := map[int]string{-1: "<", 0: "=", 1: ">"}[way(l[1], l[2])]
		return first(rule{!is, inst}, rule{true, unified(l[0], a(sign))})
	case "=":
		return unified(l...)
	case "\\=":
		return yes(!solved([][2]api.Term{{l[0], l[1]}}))
	case "==", "\\==":
		return yes((text(l[0]) == text(l[1])) == (name == "=="))
	case "@<", "@>", "@=<", "@>=":
		return orderRules(name, l[0], l[1])
	case "=..":
		return univRules(l[0], l[1])
	case "copy_term":
		return copyRules(l[0], l[1], next)
	case "atom_length":
		return first(rule{l[0].Kind == api.KindVar, inst}, rule{l[0].Kind != api.KindAtom, typed("atom", l[0])}, rule{true, unified(l[1], i(len(l[0].S)))})
	case "var", "nonvar", "atom", "integer", "compound":
		return kindRules(name, l[0])
	}
	return numberRules(name, l[0], l[1])
}

// P21.1: all predicates, with all arguments out of a few.
func TestAllSmall(t *testing.T) {
	few := []api.Term{
		v(0), v(1), i(-1), i(0), i(1), i(2), i(16), i(17), a("a"), a("f"), a("[]"), a(""),
		c("f", v(0)), c("f", v(1)), c("f", a("a")), c("f", v(0), v(1)), c("f", v(1), v(0)), c("f", v(1), v(1)), c("f", a("a"), c("f", v(0))),
		list(v(0)), list(a("f")), list(i(1)), list(c("f", v(0))), list(a("f"), v(0)), list(v(0), a("a")), list(i(1), v(1), a("a")), c(".", a("f"), v(0)), c(".", a("f"), a("b")),
		c("+", i(1), i(1)), c("-", i(1)), c("//", i(1), i(0)), c(".", v(0)),
	}
	for _, p := range preds() {
		var through func(l []api.Term)
		through = func(l []api.Term) {
			if len(l) == p.arity {
				comes(t, p.name, l, 3, meant(p.name, l, 3))
				return
			}
			for _, x := range few {
				through(append(slices.Clone(l), x))
			}
		}
		through(nil)
	}
}

// source is a row of numbers that look random.
type source uint64

func (s *source) next(n int) int {
	*s = *s*6364136223846793005 + 1442695040888963407
	return int(uint64(*s) >> 33 % uint64(n))
}

// term answers a term of at most that depth.
func (s *source) term(depth int) api.Term {
	switch s.next(8 + min(depth, 5) - 1) {
	case 0, 1, 2:
		return v(s.next(5))
	case 3, 4:
		return i(s.next(20) - 2)
	case 5, 6, 7:
		return a([]string{"a", "b", "f", "[]", "+", "-"}[s.next(6)])
	case 8, 9:
		var items []api.Term
		for range s.next(20) {
			items = append(items, s.term(depth-1))
		}
		return list(items...)
	}
	var l []api.Term
	for range 1 + s.next(4) {
		l = append(l, s.term(depth-1))
	}
	return c([]string{"f", "g", "+", "-", "*", "."}[s.next(6)], l...)
}

// like answers a term that differs from another one in little.
func (s *source) like(x api.Term) api.Term {
	if len(x.L) == 0 || s.next(8) == 0 {
		return s.term(2)
	}
	x.L = slices.Clone(x.L)
	at := s.next(len(x.L))
	x.L[at] = s.like(x.L[at])
	return x
}

// P21.1: all predicates, with arguments at random, some of which are much alike.
func TestAtRandom(t *testing.T) {
	s := source(21)
	told := map[string]int{}
	for range 3000 {
		first := s.term(4)
		for _, p := range preds() {
			l := []api.Term{first}
			for len(l) < p.arity {
				if s.next(2) == 0 {
					l = append(l, s.like(first))
				} else {
					l = append(l, s.term(3))
				}
			}
			slices.Reverse(l[s.next(len(l)):])
			next := 5 + s.next(3)
			want := meant(p.name, l, next)
			comes(t, p.name, l, next, want)
			told[p.name+" "+strings.TrimRight(want[:min(6, len(want))], " _0123456789:")]++
		}
	}
	// Something would be wrong with the arguments, if some predicates told always the same.
	for _, p := range preds() {
		ways := 0
		for what := range told {
			if strings.HasPrefix(what, p.name+" ") {
				ways++
			}
		}
		if ways < 2 && p.name != "=" && p.name != "copy_term" {
			t.Error(p.name, "told just", strconv.Itoa(ways))
		}
	}
}
