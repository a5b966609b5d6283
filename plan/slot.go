package plan

import (
	"cmp"
	"slices"

	"elenchus/api"
	"elenchus/term"
)

// level stands in the place of a variable's number where the level is meant.
const level = -1

// span is the first and the last chunk in which a variable stands.
type span struct {
	first int
	last  int
}

// isPermanent tells whether the variable stands in more chunks than one.
func (s span) isPermanent() bool {
	return s.first != s.last
}

// slot is what a slot holds, a variable or the level, and the last chunk of that.
type slot struct {
	holds int
	last  int
}

// calls answers how many of the goals are calls.
func calls(goals []api.Goal) int {
	n := 0
	for _, g := range goals {
		if g.Kind != api.GoalCut {
			n++
		}
	}
	return n
}

// spans answers in which chunks each variable stands.
func spans(c api.Clause) map[int]span {
	all := make(map[int]span)
	note(all, c.Head, 0)
	chunk := 0
	for _, g := range c.Goals {
		note(all, g.Term, chunk)
		if g.Kind != api.GoalCut {
			chunk++
		}
	}
	return all
}

// note notes that a term's variables stand in a chunk, no other one noted being behind that.
func note(all map[int]span, t api.Term, chunk int) {
	for _, v := range term.Vars(t) {
		s, seen := all[v]
		if !seen {
			s.first = chunk
		}
		s.last = chunk
		all[v] = s
	}
}

// levelLast answers the last chunk in which the level stands, and whether it is needed.
func levelLast(goals []api.Goal) (last int, needed bool) {
	for at, g := range goals {
		chunk := calls(goals[:at])
		if g.Kind == api.GoalBody || g.Kind == api.GoalCut && chunk > 0 {
			last, needed = chunk, true
		}
	}
	return last, needed
}

// slots answers what needs a slot, in the order of the slots.
func slots(c api.Clause) []slot {
	var all []slot
	if last, needed := levelLast(c.Goals); needed {
		all = append(all, slot{holds: level, last: last})
	}
	for v, s := range spans(c) {
		if s.isPermanent() {
			all = append(all, slot{holds: v, last: s.last})
		}
	}
	// The level's number is less than any variable's: so it stands ahead of them.
	slices.SortFunc(all, func(a, b slot) int {
		return cmp.Or(cmp.Compare(b.last, a.last), cmp.Compare(a.holds, b.holds))
	})
	return all
}

// planned answers the plan of a clause of so many calls with these slots.
func planned(all []slot, calls int) api.Plan {
	var p api.Plan
	for at, s := range all {
		p.Slots = append(p.Slots, s.holds)
		if s.holds == level {
			p.Level = at + 1
		}
	}
	for call := range calls {
		p.Live = append(p.Live, living(all, call))
	}
	// Behind a call that is not the last goal stands another one, or a cut, which needs the level.
	p.Env = calls > 1 || p.Level > 0
	return p
}

// living answers how many slots live behind a call, whose number is its chunk's.
func living(all []slot, call int) int {
	n := 0
	for _, s := range all {
		if s.last > call {
			n++
		}
	}
	return n
}
