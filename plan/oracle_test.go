package plan_test

import (
	"slices"
	"testing"

	"elenchus/api"
	"elenchus/plan"
)

// The plan again, by other means: all that stands in a chunk is laid out chunk by chunk, and each question is asked of that.

// layout answers, of each chunk, whether each of n variables stands there; the level is the variable n.
func layout(whole api.Clause, n int) [][]bool {
	rows := make([][]bool, len(whole.Goals)+1)
	for at := range rows {
		rows[at] = make([]bool, n+1)
	}
	mark(whole.Head, rows[0])
	chunk := 0
	for _, g := range whole.Goals {
		mark(g.Term, rows[chunk])
		if g.Kind == api.GoalBody || g.Kind == api.GoalCut && chunk != 0 {
			rows[0][n], rows[chunk][n] = true, true
		}
		if g.Kind != api.GoalCut {
			chunk++
		}
	}
	return rows
}

// mark marks the variables of a term.
func mark(t api.Term, row []bool) {
	if t.Kind == api.KindVar {
		row[t.N] = true
	}
	for _, arg := range t.L {
		mark(arg, row)
	}
}

// behind tells whether something stands in a chunk whose number is greater.
func behind(rows [][]bool, thing, chunk int) bool {
	for at := chunk + 1; at < len(rows); at++ {
		if rows[at][thing] {
			return true
		}
	}
	return false
}

// count answers in how many chunks something stands.
func count(rows [][]bool, thing int) int {
	n := 0
	for _, row := range rows {
		if row[thing] {
			n++
		}
	}
	return n
}

// planOf answers the plan of a clause whose variables are below n, its permanent variables, and its calls.
func planOf(whole api.Clause, n int) (api.Plan, []int, int) {
	rows := layout(whole, n)
	var p api.Plan
	var permanent []int
	for thing := range n {
		if count(rows, thing) > 1 {
			permanent = append(permanent, thing)
		}
	}
	things := slices.Clone(permanent)
	if count(rows, n) > 0 {
		things = append([]int{n}, things...)
	}
	// Whatever stands last is put ahead of all that is there: from the first chunk on, and in a chunk from behind.
	for chunk := range rows {
		for _, thing := range slices.Backward(things) {
			if rows[chunk][thing] && !behind(rows, thing, chunk) {
				p.Slots = append([]int{thing}, p.Slots...)
			}
		}
	}
	goalsOfCalls := []int{}
	for at, g := range whole.Goals {
		if g.Kind == api.GoalCut {
			continue
		}
		goalsOfCalls = append(goalsOfCalls, at)
		live := 0
		for _, thing := range things {
			if behind(rows, thing, len(p.Live)) {
				live++
			}
		}
		p.Live = append(p.Live, live)
	}
	for at, thing := range p.Slots {
		if thing == n {
			p.Slots[at], p.Level = -1, at+1
		}
	}
	switch len(goalsOfCalls) {
	case 0:
	case 1:
		p.Env = p.Level > 0 || goalsOfCalls[0] != len(whole.Goals)-1
	default:
		p.Env = true
	}
	return p, permanent, len(goalsOfCalls)
}

// source is a row of numbers that look random.
type source uint64

func (s *source) next(n int) int {
	*s = *s*6364136223846793005 + 1442695040888963407
	return int(uint64(*s) >> 33 % uint64(n))
}

// term answers a term of variables below n.
func (s *source) term(levels, n int) api.Term {
	switch k := s.next(6); {
	case k < 3 && n > 0:
		return v(s.next(n))
	case k == 3 || levels == 0:
		return []api.Term{a("a"), i(7), a("[]")}[s.next(3)]
	}
	var l []api.Term
	for range 1 + s.next(3) {
		l = append(l, s.term(levels-1, n))
	}
	return c("f", l...)
}

// clause answers a clause of variables below n, and up to that many goals.
func (s *source) clause(goals, n int) api.Clause {
	whole := of(c("p", s.term(2, n), s.term(1, n)))
	for range s.next(goals + 1) {
		g := cut()
		switch s.next(8) {
		case 0:
			g = body(s.term(2, n))
		case 1, 2:
			g = called(s.next(n))
		case 3, 4, 5:
			g = call(c("q", s.term(2, n)))
		}
		whole.Goals = append(whole.Goals, g)
	}
	return whole
}

// hold holds the package's answers of a clause against those of the oracle.
func hold(t *testing.T, whole api.Clause, n int) {
	t.Helper()
	want, permanent, calls := planOf(whole, n)
	got, e := plan.Of(whole)
	if len(want.Slots) > api.MaxSlots {
		if e != api.ErrMany {
			t.Fatal(whole, e)
		}
	} else if e != api.OK || told(got) != told(want) {
		t.Fatal(whole, told(got), e, told(want))
	}
	if got := plan.Permanent(whole); !slices.Equal(got, permanent) {
		t.Fatal(whole, got, permanent)
	}
	if got := plan.Calls(whole); got != calls {
		t.Fatal(whole, got, calls)
	}
	lives(t, got)
}

// lives tests P15.3: ever fewer slots live; and as many numbers stand there as say so.
func lives(t *testing.T, p api.Plan) {
	t.Helper()
	for call, live := range p.Live {
		if live > len(p.Slots) || call > 0 && live > p.Live[call-1] {
			t.Fatal(told(p))
		}
	}
}

// P15.1 to P15.3, of all small clauses: a head and up to four goals, each of one of a few kinds.
func TestSmallClauses(t *testing.T) {
	goals := []api.Goal{cut(), call(a("b")), call(c("b", v(0))), called(1), body(c("b", v(0), v(1))), body(a("b"))}
	heads := []api.Term{a("p"), c("p", v(0)), c("p", v(1), v(0))}
	var all func(l []api.Goal, more int)
	all = func(l []api.Goal, more int) {
		for _, head := range heads {
			hold(t, of(head, l...), 2)
		}
		if more == 0 {
			return
		}
		for _, g := range goals {
			all(append(slices.Clone(l), g), more-1)
		}
	}
	all(nil, 4)
}

// P15.1 to P15.3, of many clauses.
func TestManyClauses(t *testing.T) {
	s := source(15)
	for round := range 4000 {
		n := 1 + s.next(1+round%90)
		hold(t, s.clause(1+round%20, n), n)
	}
	for range 100 {
		hold(t, s.clause(64, 100), 100)
	}
}

// P15.3: the slots that live behind a call are those first ones whose things stand in a chunk behind it.
func TestFirstOnesLive(t *testing.T) {
	s := source(3)
	for range 1000 {
		whole := s.clause(12, 8)
		p, _ := plan.Of(whole)
		rows := layout(whole, 8)
		for call, live := range p.Live {
			for at, thing := range p.Slots {
				if thing == -1 {
					thing = 8
				}
				if lives := behind(rows, thing, call); lives != (at < live) {
					t.Fatal(whole, told(p), call, at)
				}
			}
		}
	}
}
