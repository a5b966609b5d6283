package clause_test

import (
	"reflect"
	"slices"
	"testing"

	"elenchus/api"
	"elenchus/clause"
	"elenchus/term"
)

// Clauses again, by other means: a body is rewritten, till no rule can be used any more; what it comes to then is read off from the left.

// isComma tells whether the term is a compound , of two arguments.
func isComma(t api.Term) bool {
	return t.Kind == api.KindComp && t.S == "," && len(t.L) == 2
}

// isTrue tells whether the term is the atom true.
func isTrue(t api.Term) bool {
	return t.Kind == api.KindAtom && t.S == "true"
}

// rewritten answers a body without brackets of commas, and without true, if it is not true alone.
func rewritten(t api.Term) api.Term {
	for isComma(t) {
		left, right := t.L[0], t.L[1]
		switch {
		case isTrue(left):
			t = right
		case isComma(left):
			t = c(",", left.L[0], c(",", left.L[1], right))
		default:
			if right = rewritten(right); isTrue(right) {
				return left
			}
			return c(",", left, right)
		}
	}
	return t
}

// normal answers what a clause's term is, but for brackets of commas, and true.
func normal(t api.Term) api.Term {
	if t.Kind != api.KindComp || t.S != ":-" || len(t.L) != 2 {
		return t
	}
	b := rewritten(t.L[1])
	if isTrue(b) {
		return t.L[0]
	}
	return c(":-", t.L[0], b)
}

// goalsOf answers the goals of a rewritten body, and the first integer among them.
func goalsOf(b api.Term) ([]api.Goal, *api.Term) {
	var goals []api.Goal
	var integer *api.Term
	for rest := true; rest && !isTrue(b); {
		g := b
		if rest = isComma(b); rest {
			g, b = b.L[0], b.L[1]
		}
		kind := api.GoalCall
		switch name := g.S + "/" + string(rune('0'+len(g.L))); {
		case g.Kind == api.KindInt:
			if integer == nil {
				integer = &g
			}
			continue
		case g.Kind == api.KindVar:
			kind = api.GoalVar
		case name == "!/0":
			kind = api.GoalCut
		case name == ";/2", name == "->/2", name == "\\+/1":
			kind = api.GoalBody
		}
		goals = append(goals, api.Goal{Kind: kind, Term: g})
	}
	return goals, integer
}

// meant checks all that is told of a term as a body, and as a clause.
func meant(t *testing.T, x api.Term) {
	t.Helper()
	goals, integer := goalsOf(rewritten(x))
	got, ball, ok := clause.Body(x)
	if integer != nil {
		if want := c("error", c("type", a("callable"), *integer)); ok || got != nil || !reflect.DeepEqual(ball, want) {
			t.Fatalf("Body(%s) = %s, %s, %v", canon(x), listed(got), canon(ball), ok)
		}
	} else if !ok || !reflect.DeepEqual(got, goals) || !reflect.DeepEqual(ball, api.Term{}) {
		t.Fatalf("Body(%s) = %s, %s, %v, not %s", canon(x), listed(got), canon(ball), ok, listed(goals))
	}
	for _, head := range []api.Term{a("h"), c("h", v(2), v(0)), v(1), c("=", v(0), v(1))} {
		whole := c(":-", head, x)
		k, ball, ok := clause.From(whole)
		if want := integer == nil && head.S == "h"; ok != want {
			t.Fatalf("From(%s) = %v, %s", canon(whole), ok, canon(ball))
		}
		if ok {
			follows(t, whole, k)
		}
	}
}

// follows checks what follows of a clause that was made of a term.
func follows(t *testing.T, whole api.Term, k api.Clause) {
	t.Helper()
	back := clause.Back(k)
	if want := normal(whole); !term.Variant(back, want) {
		t.Fatalf("%s comes back as %s, not %s", canon(whole), canon(back), canon(want))
	}
	renamed, vars := term.Rename(whole)
	if want := normal(renamed); !term.Same(back, want) || k.Vars != vars {
		t.Fatalf("%s comes back as %s, of %d variables, not as %s, of %d", canon(whole), canon(back), k.Vars, canon(want), vars)
	}
	if again, _, ok := clause.From(back); !ok || !reflect.DeepEqual(again, k) {
		t.Fatalf("%s: another clause than that of %s", canon(back), canon(whole))
	}
}

// P14.1, P14.3: all small bodies.
func TestAllSmallBodies(t *testing.T) {
	leaves := []api.Term{a("true"), a("a"), a("!"), v(0), v(1), i(1), i(2), c(";", a("a"), v(3)), c("->", a("true"), a("!")), c("\\+", i(3)), c("f", v(1)), c(",", a("a")), c(":-", a("a"), a("b"))}
	pairs := slices.Clone(leaves)
	for _, x := range leaves {
		meant(t, x)
		for _, y := range leaves {
			pairs = append(pairs, c(",", x, y))
		}
	}
	for _, x := range pairs {
		for _, y := range pairs {
			meant(t, c(",", x, y))
		}
	}
}

// source is numbers in no order, the same ones each time.
type source uint64

// next answers a number from 0 to n - 1.
func (s *source) next(n int) int {
	*s = *s*6364136223846793005 + 1442695040888963407
	return int(uint64(*s)>>33) % n
}

// term answers some term of at most so many levels.
func (s *source) term(levels int) api.Term {
	switch kind := s.next(12); {
	case kind == 0:
		return i(s.next(3))
	case kind < 4 || levels == 1:
		return v(s.next(6))
	case kind < 7:
		return a([]string{"a", "true", "!", "[]"}[s.next(4)])
	}
	var l []api.Term
	for range 1 + s.next(3) {
		l = append(l, s.term(levels-1))
	}
	return c([]string{"f", ",", ";", "->", "\\+", ":-", "."}[s.next(7)], l...)
}

// body answers some body of so many goals or integers, the latter but seldom, with any brackets.
func (s *source) body(n int) api.Term {
	if n == 1 {
		if x := s.term(3); x.Kind != api.KindInt || s.next(20) == 0 {
			return x
		}
		return a("true")
	}
	left := 1 + s.next(n-1)
	return c(",", s.body(left), s.body(n-left))
}

// P14.1, P14.3: any bodies.
func TestAnyBodies(t *testing.T) {
	r := source(3)
	for range 5000 {
		meant(t, r.body(1+r.next(12)))
	}
}

// P14.1, P14.3: any terms as clauses: what is one comes back.
func TestAnyTerms(t *testing.T) {
	r := source(8)
	clauses := 0
	for range 30000 {
		x := r.term(4)
		if r.next(2) == 0 {
			x = c(":-", r.term(3), r.term(4))
		}
		before := text(x)
		k, ball, ok := clause.From(x)
		if ok {
			clauses++
			follows(t, x, k)
		} else if !reflect.DeepEqual(k, api.Clause{}) || term.Check(ball) != api.OK {
			t.Fatalf("From(%s): %s", canon(x), canon(ball))
		}
		if text(x) != before {
			t.Fatal("changed:", before)
		}
	}
	if clauses < 5000 {
		t.Error("so few were clauses:", clauses)
	}
}

// places answers where each argument of these terms lies.
func places(l []api.Term) []*api.Term {
	var all []*api.Term
	for j := range l {
		all = append(append(all, &l[j]), places(l[j].L)...)
	}
	return all
}

// apart checks that what is answered shares nothing with what was handed in, nor with another part of it.
func apart(t *testing.T, what string, given, answers []api.Term) {
	t.Helper()
	seen := map[*api.Term]bool{}
	for _, p := range places(given) {
		seen[p] = true
	}
	for _, x := range answers {
		for _, p := range places(x.L) {
			if seen[p] {
				t.Errorf("%s: an answer shares memory", what)
				return
			}
			seen[p] = true
		}
	}
}

// R3: what is answered is new memory; what is handed in stays as it was, also behind a list's end.
func TestOwnMemory(t *testing.T) {
	row := []api.Term{c("g", v(7)), v(8), {Kind: 77}}
	f := c("f", row[:2]...)
	inner := c(",", f, c(",", f, c(";", f, f)))
	whole := c(":-", c("h", f, f), c(",", inner, inner))
	goals := []api.Goal{{Kind: api.GoalCall, Term: f}, {Kind: api.GoalCall, Term: f}, {Kind: 77}}
	given := []api.Term{whole, inner, f, c("", row...)}
	before := text(c("", given...))
	terms := func(goals []api.Goal) []api.Term {
		var l []api.Term
		for _, g := range goals {
			l = append(l, g.Term)
		}
		return l
	}
	for range 2 {
		k, _, ok := clause.From(whole)
		if !ok || len(k.Goals) != 6 {
			t.Fatal(ok, listed(k.Goals))
		}
		apart(t, "From", given, append(terms(k.Goals), k.Head))
		got, _, ok := clause.Body(inner)
		if !ok || len(got) != 3 {
			t.Fatal(ok, listed(got))
		}
		apart(t, "Body", given, terms(got))
		back := clause.Back(api.Clause{Head: f, Goals: goals[:2]})
		isBack(t, "spare room", api.Clause{Head: f, Goals: goals[:2]}, canon(back))
		apart(t, "Back", given, []api.Term{back})
		apart(t, "Back", given, []api.Term{clause.Back(api.Clause{Head: f})})
		sum, _, ok := clause.Add(f, row[:2])
		if !ok || canon(sum) != "f(g(_7),_8,g(_7),_8)" {
			t.Fatal(ok, text(sum))
		}
		apart(t, "Add", given, []api.Term{sum})
		sum, _, _ = clause.Add(f, nil)
		apart(t, "Add", given, []api.Term{sum})
		if text(c("", given...)) != before || goals[2].Kind != 77 || !reflect.DeepEqual(goals[0].Term, f) {
			t.Fatal("what was handed in has changed")
		}
	}
}
