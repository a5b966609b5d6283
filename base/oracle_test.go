package base_test

import (
	"slices"
	"strings"
	"testing"

	"elenchus/api"
	"elenchus/base"
)

// A base again, by other means: one list of all clauses that were ever added, each with the generations in which it lives noted one by one.

type record struct {
	id      int
	gone    bool
	killed  bool
	head    api.Term
	living  map[int]bool // generations
	ordinal int          // where it stands in its predicate
}

type history struct {
	limit      int
	generation int
	all        []*record
}

// tick goes on to the next generation.
func (h *history) tick() {
	h.generation++
	for _, r := range h.all {
		if !r.killed {
			r.living[h.generation] = true
		}
	}
}

// slot answers what a slot has, if it is not free.
func (h *history) slot(id int) *record {
	for _, r := range h.all {
		if r.id == id && !r.gone {
			return r
		}
	}
	return nil
}

// same tells whether two heads are of one predicate.
func same(x, y api.Term) bool { return x.S == y.S && len(x.L) == len(y.L) }

// preds answers a predicate's clauses that are not gone, in order.
func (h *history) pred(head api.Term) []*record {
	var l []*record
	for _, r := range h.all {
		if !r.gone && same(r.head, head) {
			l = append(l, r)
		}
	}
	slices.SortFunc(l, func(x, y *record) int { return x.ordinal - y.ordinal })
	return l
}

// add adds a clause.
func (h *history) add(head api.Term, front bool) (int, api.Errno) {
	id := 0
	for h.slot(id) != nil {
		id++
	}
	if id >= h.limit {
		return 0, api.ErrFull
	}
	ordinal := len(h.all) + 1
	if front {
		ordinal = -ordinal
	}
	h.all = append(h.all, &record{id: id, head: head, living: map[int]bool{}, ordinal: ordinal})
	h.tick()
	return id, api.OK
}

// kill kills a clause.
func (h *history) kill(id int) api.Errno {
	r := h.slot(id)
	if r == nil || r.killed {
		return api.ErrNone
	}
	r.killed = true
	h.tick()
	return api.OK
}

// fits tells whether a clause lives in a generation, and a key fits its first argument.
func (r *record) fits(k api.Key, generation int) bool {
	if !r.living[generation] {
		return false
	}
	if k.Kind == api.KeyAny || len(r.head.L) == 0 {
		return true
	}
	first := r.head.L[0]
	switch first.Kind {
	case api.KindInt:
		return k == intKey(first.N)
	case api.KindAtom:
		return k == atomKey(first.S)
	case api.KindComp:
		return k == compKey(first.S, len(first.L))
	}
	return true
}

// source is a row of numbers that look random.
type source uint64

func (s *source) next(n int) int {
	*s = *s*6364136223846793005 + 1442695040888963407
	return int(uint64(*s) >> 33 % uint64(n))
}

// pick answers one of these.
func pick[T any](s *source, l ...T) T { return l[s.next(len(l))] }

// head answers one of a few heads.
func (s *source) head() api.Term {
	first := pick(s, v(0), i(0), i(1), a("a"), a("b"), c("a", v(0)), c("a", v(0), v(1)))
	return pick(s, a("p"), a("q"), c("p", first), c("q", first), c("p", first, a("a")))
}

// key answers one of a few keys.
func (s *source) key() api.Key {
	return pick(s, anyKey(), intKey(0), intKey(1), atomKey("a"), atomKey("b"), compKey("a", 1), compKey("a", 2), compKey("b", 1))
}

// hold holds a base against a history.
func (h *history) hold(t *testing.T, b *base.Base, s *source) {
	t.Helper()
	k, generation := s.key(), s.next(h.generation+2)
	used := 0
	for id := range h.limit + 1 {
		r := h.slot(id)
		if r != nil {
			used++
		}
		// In a generation that is yet to come what lives now is still to live.
		if generation <= h.generation && b.Lives(id, generation) != (r != nil && r.living[generation]) {
			t.Fatal("Lives", id, generation)
		}
		if whole, e := b.Clause(id); (e == api.OK) != (r != nil) || r != nil && !same(whole.Head, r.head) {
			t.Fatal("Clause", id, e)
		}
	}
	if b.Slots() != used || b.Generation() != h.generation {
		t.Fatal("Slots", b.Slots(), used, "Generation", b.Generation(), h.generation)
	}
	if generation > h.generation {
		return
	}
	var preds []api.Pred
	for _, head := range []api.Term{a("p"), c("p", v(0)), c("p", v(0), v(0)), a("q"), c("q", v(0))} {
		known := slices.ContainsFunc(h.all, func(r *record) bool { return same(r.head, head) })
		if b.Known(head.S, len(head.L)) != known {
			t.Fatal("Known", head)
		}
		var want []int
		living := 0
		for _, r := range h.pred(head) {
			if r.fits(k, generation) {
				want = append(want, r.id)
			}
			if !r.killed {
				living++
			}
		}
		tells(t, b, head.S, len(head.L), k, generation, want...)
		if known {
			preds = append(preds, api.Pred{Name: head.S, Arity: len(head.L), Clauses: living})
		}
	}
	if !slices.Equal(b.Preds(), preds) {
		t.Fatal(b.Preds(), preds)
	}
}

// next holds what stands behind each slot against a history.
func (h *history) next(t *testing.T, b *base.Base, s *source) {
	t.Helper()
	k, generation := s.key(), s.next(h.generation+1)
	for id := range h.limit + 1 {
		want, found := 0, false
		if r := h.slot(id); r != nil {
			for _, other := range h.pred(r.head) {
				if !found && other.ordinal > r.ordinal && other.fits(k, generation) {
					want, found = other.id, true
				}
			}
		}
		if got, ok := b.Next(id, k, generation); got != want || ok != found {
			t.Fatal("Next", id, k, generation, got, ok, want, found)
		}
	}
}

// P19.1 to P19.4: whatever is added, killed and reclaimed.
func TestLikeHistory(t *testing.T) {
	for seed := range 40 {
		s := source(seed)
		limit := 1 + seed
		b, h := made(t, limit), &history{limit: limit}
		for range 250 {
			switch s.next(8) {
			case 0, 1, 2, 3:
				head, front := s.head(), s.next(2) == 0
				id, e := b.Add(fact(head), nil, front)
				if want, f := h.add(head, front); id != want || e != f {
					t.Fatal("Add", head, id, e, want, f)
				}
			case 4, 5, 6:
				id := s.next(limit + 1)
				if e, f := b.Kill(id), h.kill(id); e != f {
					t.Fatal("Kill", id, e, f)
				}
			case 7:
				odd := s.next(3)
				used := func(id int) bool { return id%3 == odd }
				gone := 0
				for _, r := range h.all {
					if !r.gone && r.killed && !used(r.id) {
						r.gone = true
						gone++
					}
				}
				if n := b.Reclaim(used); n != gone {
					t.Fatal("Reclaim", n, gone)
				}
			}
			h.hold(t, b, &s)
			h.next(t, b, &s)
		}
	}
}

// P19.4: what lives in a generation is told the same for ever, as long as nothing is reclaimed.
func TestGenerationsStay(t *testing.T) {
	b := made(t, 300)
	s := source(7)
	tell := func(generation int) string {
		var told strings.Builder
		for _, p := range []api.Pred{{Name: "p"}, {Name: "p", Arity: 1}, {Name: "p", Arity: 2}, {Name: "q"}, {Name: "q", Arity: 1}} {
			for _, id := range row(b, p.Name, p.Arity, anyKey(), generation) {
				told.WriteString(" " + string(rune('A'+id)))
			}
			told.WriteString(";")
		}
		return told.String()
	}
	were := []string{tell(0)}
	for range 400 {
		if s.next(3) > 0 {
			b.Add(fact(s.head()), nil, s.next(2) == 0)
		} else if b.Kill(s.next(b.Slots()+1)) != api.OK {
			continue
		}
		for generation, was := range were {
			if now := tell(generation); now != was {
				t.Fatal(generation, was, now)
			}
		}
		if b.Generation() == len(were) {
			were = append(were, tell(b.Generation()))
		}
	}
}
