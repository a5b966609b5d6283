package base_test

import (
	"reflect"
	"slices"
	"strconv"
	"testing"

	"elenchus/api"
	"elenchus/base"
)

// The terms of these tests are laid by hand.

func v(n int) api.Term    { return api.Term{Kind: api.KindVar, N: n} }
func i(n int) api.Term    { return api.Term{Kind: api.KindInt, N: n} }
func a(s string) api.Term { return api.Term{Kind: api.KindAtom, S: s} }
func c(s string, l ...api.Term) api.Term {
	return api.Term{Kind: api.KindComp, S: s, L: l}
}

// keys by hand.

func anyKey() api.Key          { return api.Key{} }
func intKey(n int) api.Key     { return api.Key{Kind: api.KeyInt, N: n} }
func atomKey(s string) api.Key { return api.Key{Kind: api.KeyAtom, S: s} }
func compKey(s string, n int) api.Key {
	return api.Key{Kind: api.KeyComp, S: s, N: n}
}

const (
	most   = 1<<63 - 1
	lowest = -1 << 63
)

// fact makes a clause without goals.
func fact(head api.Term) api.Clause { return api.Clause{Head: head} }

// made answers a base of a limit that may be.
func made(t *testing.T, limit int) *base.Base {
	t.Helper()
	b, e := base.New(limit)
	if b == nil || e != api.OK {
		t.Fatal(limit, e)
	}
	return b
}

// adds tests that a clause of that head gets that slot.
func adds(t *testing.T, b *base.Base, head api.Term, front bool, id int) {
	t.Helper()
	generation, slots := b.Generation(), b.Slots()
	if got, e := b.Add(fact(head), []api.Instr{{Op: api.InsProceed}}, front); got != id || e != api.OK {
		t.Fatal("Add", head, "is", got, e, "not", id)
	}
	if b.Generation() != generation+1 || b.Slots() != slots+1 {
		t.Fatal("generation", b.Generation(), "slots", b.Slots())
	}
}

// refuses tests that a clause is refused, and that nothing has changed.
func refuses(t *testing.T, b *base.Base, c api.Clause, want api.Errno) {
	t.Helper()
	for _, front := range []bool{false, true} {
		generation, slots, preds := b.Generation(), b.Slots(), b.Preds()
		if id, e := b.Add(c, nil, front); id != 0 || e != want {
			t.Error("Add is", id, e, "not", want)
		}
		if b.Generation() != generation || b.Slots() != slots || !slices.Equal(b.Preds(), preds) {
			t.Error("a clause that was refused has changed something")
		}
	}
}

// kills tests that a clause is killed.
func kills(t *testing.T, b *base.Base, id int) {
	t.Helper()
	generation, slots := b.Generation(), b.Slots()
	if e := b.Kill(id); e != api.OK {
		t.Fatal("Kill", id, e)
	}
	if b.Generation() != generation+1 || b.Slots() != slots {
		t.Fatal("generation", b.Generation(), "slots", b.Slots())
	}
}

// row answers what Head and Next tell, again and again.
func row(b *base.Base, name string, arity int, k api.Key, generation int) []int {
	var ids []int
	id, ok := b.Head(name, arity, k, generation)
	for ok {
		ids = append(ids, id)
		id, ok = b.Next(id, k, generation)
	}
	if id != 0 {
		panic("a number beside a false")
	}
	return ids
}

// tells tests that just these clauses are told.
func tells(t *testing.T, b *base.Base, name string, arity int, k api.Key, generation int, want ...int) {
	t.Helper()
	if got := row(b, name, arity, k, generation); !slices.Equal(got, want) {
		t.Error(name, arity, k, generation, "tells", got, "not", want)
	}
}

// pred makes a predicate.
func pred(name string, arity, clauses int) api.Pred {
	return api.Pred{Name: name, Arity: arity, Clauses: clauses}
}

// never is asked of no clause.
func never(t *testing.T) func(int) bool {
	return func(id int) bool { t.Error("asked of", id); return false }
}

// P19.1: limits.
func TestNew(t *testing.T) {
	for _, limit := range []int{lowest, -1, 0, api.MaxClauses + 1, most} {
		if b, e := base.New(limit); b != nil || e != api.ErrArg {
			t.Error(limit, b, e)
		}
	}
	for _, limit := range []int{1, 2, api.MaxClauses} {
		b := made(t, limit)
		if b.Generation() != 0 || b.Slots() != 0 || len(b.Preds()) != 0 || b.Known("p", 0) || b.Reclaim(never(t)) != 0 {
			t.Error(limit, "it has clauses")
		}
		tells(t, b, "p", 0, anyKey(), 0)
	}
}

// P19.1: what may be a head.
func TestHeads(t *testing.T) {
	b := made(t, 9)
	for _, head := range []api.Term{
		v(0), v(7), i(0), i(-7), {}, {Kind: 5, S: "p"}, {Kind: -1, S: "p"},
		{Kind: api.KindVar, S: "p", L: []api.Term{a("a")}}, {Kind: api.KindInt, S: "p", L: []api.Term{a("a")}},
	} {
		refuses(t, b, fact(head), api.ErrArg)
	}
	adds(t, b, a("p"), false, 0)
	adds(t, b, c("p", v(0)), false, 1)
	adds(t, b, a(""), false, 2)
	adds(t, b, c("p", v(0), v(0)), false, 3)
	adds(t, b, a("[]"), true, 4)
	tells(t, b, "p", 0, anyKey(), 5, 0)
	tells(t, b, "p", 1, anyKey(), 5, 1)
	tells(t, b, "", 0, anyKey(), 5, 2)
	tells(t, b, "p", 2, anyKey(), 5, 3)
	tells(t, b, "[]", 0, anyKey(), 5, 4)
	for _, l := range []struct {
		name  string
		arity int
	}{{"p", 3}, {"p", -1}, {"q", 0}, {"", 1}, {"[]", 1}, {"p", most}} {
		if b.Known(l.name, l.arity) {
			t.Error(l.name, l.arity, "is known")
		}
		tells(t, b, l.name, l.arity, anyKey(), 5)
	}
}

// P19.1: the heads are refused ahead of what is full.
func TestHeadsOfAFullBase(t *testing.T) {
	b := made(t, 1)
	adds(t, b, a("p"), false, 0)
	refuses(t, b, fact(v(0)), api.ErrArg)
	refuses(t, b, fact(a("p")), api.ErrFull)
	refuses(t, b, fact(a("q")), api.ErrFull)
	if b.Known("q", 0) {
		t.Error("what was refused is known")
	}
}

// P19.1: slots are taken from the lowest one on, and those that became free ahead of new ones; a killed clause keeps its slot.
func TestSlots(t *testing.T) {
	b := made(t, 5)
	for id := range 5 {
		adds(t, b, c("p", i(id)), false, id)
	}
	refuses(t, b, fact(a("q")), api.ErrFull)
	for _, id := range []int{3, 1, 4} {
		kills(t, b, id)
		refuses(t, b, fact(a("q")), api.ErrFull)
	}
	if n := b.Reclaim(func(id int) bool { return id == 4 }); n != 2 || b.Slots() != 3 {
		t.Error(n, b.Slots())
	}
	adds(t, b, a("q"), false, 1)
	adds(t, b, a("q"), false, 3)
	refuses(t, b, fact(a("q")), api.ErrFull)
	kills(t, b, 0)
	if n := b.Reclaim(func(id int) bool { return false }); n != 2 || b.Slots() != 3 {
		t.Error(n, b.Slots())
	}
	adds(t, b, a("r"), true, 0)
	adds(t, b, a("r"), true, 4)
	tells(t, b, "p", 1, anyKey(), b.Generation(), 2)
	tells(t, b, "q", 0, anyKey(), b.Generation(), 1, 3)
	tells(t, b, "r", 0, anyKey(), b.Generation(), 4, 0)
}

// P19.1: a predicate's clauses stand behind one another, or ahead.
func TestOrder(t *testing.T) {
	b := made(t, 20)
	adds(t, b, a("p"), false, 0)
	adds(t, b, a("q"), true, 1)
	adds(t, b, a("p"), true, 2)
	adds(t, b, a("q"), false, 3)
	adds(t, b, a("p"), false, 4)
	adds(t, b, a("p"), true, 5)
	adds(t, b, a("q"), true, 6)
	tells(t, b, "p", 0, anyKey(), b.Generation(), 5, 2, 0, 4)
	tells(t, b, "q", 0, anyKey(), b.Generation(), 6, 1, 3)
}

// P19.1: the document's example, and in which generations else a clause lives.
func TestLives(t *testing.T) {
	b := made(t, 4)
	adds(t, b, a("p"), false, 0)
	adds(t, b, a("p"), false, 1)
	kills(t, b, 0)
	for _, l := range []struct {
		id, generation int
		want           bool
	}{
		{0, lowest, false}, {0, -1, false}, {0, 0, false}, {0, 1, true}, {0, 2, true}, {0, 3, false}, {0, 4, false}, {0, most, false},
		{1, lowest, false}, {1, 0, false}, {1, 1, false}, {1, 2, true}, {1, 3, true}, {1, 4, true}, {1, most, true},
		{2, 3, false}, {3, 3, false}, {-1, 3, false}, {lowest, 3, false}, {most, 3, false}, {1 << 32, 3, false},
	} {
		if b.Lives(l.id, l.generation) != l.want {
			t.Error(l.id, l.generation, "lives is not", l.want)
		}
	}
	tells(t, b, "p", 0, anyKey(), 0)
	tells(t, b, "p", 0, anyKey(), 1, 0)
	tells(t, b, "p", 0, anyKey(), 2, 0, 1)
	tells(t, b, "p", 0, anyKey(), 3, 1)
	tells(t, b, "p", 0, anyKey(), 9, 1)
	if b.Reclaim(func(int) bool { return false }) != 1 {
		t.Error("Reclaim")
	}
	for generation := range 5 {
		if b.Lives(0, generation) {
			t.Error("a free slot's clause lives in", generation)
		}
	}
	tells(t, b, "p", 0, anyKey(), 2, 1)
	adds(t, b, a("p"), true, 0)
	for generation := range 9 {
		if b.Lives(0, generation) != (generation >= 4) {
			t.Error("a new clause in", generation)
		}
	}
	tells(t, b, "p", 0, anyKey(), 3, 1)
	tells(t, b, "p", 0, anyKey(), 4, 0, 1)
}

// P19.1: what may not be killed.
func TestKillRefuses(t *testing.T) {
	b := made(t, 4)
	adds(t, b, a("p"), false, 0)
	adds(t, b, a("p"), false, 1)
	kills(t, b, 0)
	for _, id := range []int{0, 2, 3, 4, -1, lowest, most} {
		if e := b.Kill(id); e != api.ErrNone || b.Generation() != 3 {
			t.Error(id, e, b.Generation())
		}
	}
	b.Reclaim(func(int) bool { return false })
	if e := b.Kill(0); e != api.ErrNone || b.Generation() != 3 {
		t.Error(e, b.Generation())
	}
	kills(t, b, 1)
}

// P19.1: a predicate has so many clauses, killed ones among them, and others have room beside it.
func TestManyOfAPredicate(t *testing.T) {
	b := made(t, api.MaxClauses)
	for id := range api.MaxEntries {
		adds(t, b, c("p", i(id)), id%2 == 0, id)
	}
	refuses(t, b, fact(c("p", a("a"))), api.ErrFull)
	adds(t, b, a("p"), false, api.MaxEntries)
	kills(t, b, 7)
	kills(t, b, 9)
	refuses(t, b, fact(c("p", a("a"))), api.ErrFull)
	if b.Reclaim(func(id int) bool { return id == 9 }) != 1 {
		t.Error("Reclaim")
	}
	adds(t, b, c("p", a("a")), false, 7)
	refuses(t, b, fact(c("p", a("a"))), api.ErrFull)
	if l := row(b, "p", 1, anyKey(), b.Generation()); len(l) != api.MaxEntries-1 || l[0] != api.MaxEntries-2 || l[len(l)-1] != 7 {
		t.Error(len(l), l[0], l[len(l)-1])
	}
}

// P19.1: the greatest limit.
func TestGreatestLimit(t *testing.T) {
	b := made(t, api.MaxClauses)
	for id := range api.MaxClauses {
		if got, e := b.Add(fact(a(strconv.Itoa(id%8))), nil, false); got != id || e != api.OK {
			t.Fatal(id, got, e)
		}
	}
	refuses(t, b, fact(a("9")), api.ErrFull)
	if b.Slots() != api.MaxClauses || b.Generation() != api.MaxClauses {
		t.Error(b.Slots(), b.Generation())
	}
	for id := range api.MaxClauses {
		if id%3 == 0 {
			kills(t, b, id)
		}
	}
	if n := b.Reclaim(func(int) bool { return false }); n != (api.MaxClauses+2)/3 {
		t.Error(n)
	}
	s := source(1)
	for id := 0; id < api.MaxClauses; id += 3 {
		adds(t, b, pick(&s, a("8"), a("9")), true, id)
	}
	refuses(t, b, fact(a("9")), api.ErrFull)
}

// P19.2: clauses by the keys of their first arguments.
func TestKeys(t *testing.T) {
	b := made(t, 20)
	for id, head := range []api.Term{
		c("p", a("a"), i(1)), c("p", v(0), i(1)), c("p", i(1), a("b")), c("p", c("f", v(0)), a("a")),
		c("p", c("f", v(0), v(0)), v(0)), c("p", a("a"), a("b")), c("p", c("f", a("a")), v(0)),
	} {
		adds(t, b, head, false, id)
	}
	adds(t, b, c("p", a("a")), false, 7)
	tells(t, b, "p", 2, anyKey(), 8, 0, 1, 2, 3, 4, 5, 6)
	tells(t, b, "p", 2, atomKey("a"), 8, 0, 1, 5)
	tells(t, b, "p", 2, intKey(1), 8, 1, 2)
	tells(t, b, "p", 2, compKey("f", 1), 8, 1, 3, 6)
	tells(t, b, "p", 2, compKey("f", 2), 8, 1, 4)
	for _, k := range []api.Key{atomKey("b"), atomKey("f"), intKey(0), compKey("a", 1), compKey("f", 3), {Kind: 9}} {
		tells(t, b, "p", 2, k, 8, 1)
	}
	tells(t, b, "p", 1, atomKey("a"), 8, 7)
	tells(t, b, "p", 1, atomKey("b"), 8)

	// What is asked of may be one that does not meet the key, or does not live.
	for _, l := range []struct {
		id         int
		k          api.Key
		generation int
		want       int
		found      bool
	}{
		{2, atomKey("a"), 8, 5, true}, {3, intKey(1), 8, 0, false}, {0, intKey(1), 8, 1, true}, {6, anyKey(), 8, 0, false},
		{5, anyKey(), 3, 0, false}, {0, anyKey(), 3, 1, true}, {1, anyKey(), 3, 2, true}, {2, anyKey(), 3, 0, false},
		{7, atomKey("a"), 8, 0, false}, {8, anyKey(), 8, 0, false}, {-1, anyKey(), 8, 0, false}, {most, anyKey(), 8, 0, false}, {lowest, anyKey(), 8, 0, false},
	} {
		if id, ok := b.Next(l.id, l.k, l.generation); id != l.want || ok != l.found {
			t.Error(l, id, ok)
		}
	}
	kills(t, b, 0)
	kills(t, b, 1)
	tells(t, b, "p", 2, atomKey("a"), 8, 0, 1, 5)
	tells(t, b, "p", 2, atomKey("a"), 9, 1, 5)
	tells(t, b, "p", 2, atomKey("a"), 10, 5)
	tells(t, b, "p", 2, intKey(0), 10)
	if id, ok := b.Next(0, atomKey("a"), 10); id != 5 || !ok {
		t.Error("behind a killed one:", id, ok)
	}
	b.Reclaim(func(id int) bool { return id == 1 })
	if id, ok := b.Next(0, atomKey("a"), 10); id != 0 || ok {
		t.Error("behind a free slot:", id, ok)
	}
	if id, ok := b.Next(1, atomKey("a"), 10); id != 5 || !ok {
		t.Error("behind a killed one:", id, ok)
	}
}

// P19.2: a predicate stays known, once a clause was added.
func TestKnown(t *testing.T) {
	b := made(t, 2)
	if b.Known("p", 1) {
		t.Error("known at once")
	}
	adds(t, b, c("p", v(0)), false, 0)
	kills(t, b, 0)
	if !b.Known("p", 1) || b.Known("p", 0) {
		t.Error("of a killed clause")
	}
	b.Reclaim(func(int) bool { return false })
	if !b.Known("p", 1) || !slices.Equal(b.Preds(), []api.Pred{{Name: "p", Arity: 1}}) {
		t.Error("of one that is gone", b.Preds())
	}
	tells(t, b, "p", 1, anyKey(), 2)
	adds(t, b, c("p", v(0)), false, 0)
	tells(t, b, "p", 1, anyKey(), 3, 0)
}

// rule answers a clause of many fields.
func rule() (api.Clause, []api.Instr) {
	whole := api.Clause{Head: c("p", v(0), c("f", v(1), a("a"))), Vars: 2, Goals: []api.Goal{
		{Kind: api.GoalCall, Term: c("q", v(1), c("g", i(-7)))}, {Kind: api.GoalCut, Term: a("!")}, {Kind: api.GoalVar, Term: v(0)}, {Kind: api.GoalBody, Term: c(";", a("a"), v(1))},
	}}
	return whole, []api.Instr{{Op: api.InsAlloc, A: 2}, {Op: api.InsGetStr, S: "f", N: 2, A: 2}, {Op: api.InsPutVar, V: -1, A: 1}, {Op: api.InsProceed}}
}

// P19.2: what a slot has, also once it was killed.
func TestClauseAndCode(t *testing.T) {
	b := made(t, 3)
	adds(t, b, a("p"), false, 0)
	whole, code := rule()
	if id, e := b.Add(whole, code, false); id != 1 || e != api.OK {
		t.Fatal(id, e)
	}
	same := func() {
		t.Helper()
		if got, e := b.Clause(1); e != api.OK || !reflect.DeepEqual(got, whole) {
			t.Error(got, e)
		}
		if got, e := b.Code(1); e != api.OK || !slices.Equal(got, code) {
			t.Error(got, e)
		}
		if b.Size(1) != len(code) || b.Size(0) != 1 {
			t.Error(b.Size(1), b.Size(0))
		}
		for at, want := range code {
			if got, ok := b.At(1, at); got != want || !ok {
				t.Error(at, got, ok)
			}
		}
		for _, at := range []int{-1, len(code), lowest, most} {
			if got, ok := b.At(1, at); got != (api.Instr{}) || ok {
				t.Error(at, got, ok)
			}
		}
	}
	same()
	kills(t, b, 1)
	same()
	if got, e := b.Clause(0); e != api.OK || !reflect.DeepEqual(got, fact(a("p"))) {
		t.Error(got, e)
	}
	b.Reclaim(func(int) bool { return false })
	for _, id := range []int{1, 2, 3, -1, lowest, most} {
		if got, e := b.Clause(id); e != api.ErrNone || !reflect.DeepEqual(got, api.Clause{}) {
			t.Error(id, got, e)
		}
		if got, e := b.Code(id); e != api.ErrNone || got != nil {
			t.Error(id, got, e)
		}
		if got, ok := b.At(id, 0); got != (api.Instr{}) || ok || b.Size(id) != 0 {
			t.Error(id, got, ok, b.Size(id))
		}
	}
}

// P19.2: code without instructions, and a clause that is none, come back as they are.
func TestOddClauses(t *testing.T) {
	b := made(t, 9)
	odd := api.Clause{Head: c("p", api.Term{Kind: 9, S: "x"}, c("f")), Vars: -7, Goals: []api.Goal{{Kind: 12, Term: api.Term{N: 3}}, {}}}
	if id, e := b.Add(odd, nil, false); id != 0 || e != api.OK {
		t.Fatal(id, e)
	}
	if got, e := b.Clause(0); e != api.OK || !reflect.DeepEqual(got.Goals, odd.Goals) || got.Vars != -7 || got.Head.S != "p" || got.Head.L[0].S != "x" || got.Head.L[1].S != "f" {
		t.Error(got, e)
	}
	if got, e := b.Code(0); e != api.OK || len(got) != 0 || b.Size(0) != 0 {
		t.Error(got, e)
	}
	if _, ok := b.At(0, 0); ok {
		t.Error("it has an instruction")
	}
	tells(t, b, "p", 2, atomKey("a"), 1, 0)
	b.Add(fact(c("p")), nil, false)
	b.Add(fact(api.Term{Kind: api.KindAtom, S: "p", N: 3, L: []api.Term{a("a")}}), nil, false)
	tells(t, b, "p", 0, intKey(1), 3, 1, 2)
}

// R1: a clause that lies in itself is beyond the bound; all calls end.
func TestEndless(t *testing.T) {
	l := make([]api.Term, 2)
	l[0], l[1] = c("f", l...), a("a")
	endless := c("f", l...)
	b := made(t, 9)
	b.Add(fact(endless), nil, false)
	b.Add(api.Clause{Head: a("p"), Goals: []api.Goal{{Kind: api.GoalCall, Term: endless}}}, nil, false)
	b.Clause(0)
	b.Clause(1)
	row(b, "f", 2, anyKey(), 2)
	b.Preds()
}

// R3: what is handed in is not kept, and what is answered is new.
func TestOwnMemory(t *testing.T) {
	b := made(t, 3)
	given, code := rule()
	want, right := rule()
	b.Add(given, code, false)
	spoil := func(whole api.Clause, code []api.Instr) {
		whole.Head.L[0], whole.Head.L[1].L[0] = a("x"), a("x")
		whole.Goals[0].Term.L[1].L[0] = a("x")
		for n := range whole.Goals[:cap(whole.Goals)] {
			whole.Goals[:cap(whole.Goals)][n] = api.Goal{}
		}
		for n := range code[:cap(code)] {
			code[:cap(code)][n] = api.Instr{Op: 9}
		}
	}
	spoil(given, code)
	for range 2 {
		whole, e := b.Clause(0)
		l, f := b.Code(0)
		if e != api.OK || f != api.OK || !reflect.DeepEqual(whole, want) || !slices.Equal(l, right) {
			t.Error(whole, l)
		}
		spoil(whole, l)
	}
	preds := b.Preds()
	preds[0].Name = "x"
	if b.Preds()[0] != (api.Pred{Name: "p", Arity: 2, Clauses: 1}) || !b.Known("p", 2) {
		t.Error(b.Preds())
	}
}

// P19.3: predicates by names, then by arities.
func TestPreds(t *testing.T) {
	b := made(t, 30)
	for id, head := range []api.Term{c("p", v(0), v(0)), a("q"), c("B", v(0)), a("p"), c("p", v(0)), a(""), c("p", i(1)), a("pp"), a("é"), a("[]"), c("p", many(10, v(0))...)} {
		adds(t, b, head, false, id)
	}
	kills(t, b, 1)
	kills(t, b, 4)
	adds(t, b, c("p", v(0)), false, 11)
	want := []api.Pred{pred("", 0, 1), pred("B", 1, 1), pred("[]", 0, 1), pred("p", 0, 1), pred("p", 1, 2), pred("p", 2, 1), pred("p", 10, 1), pred("pp", 0, 1), pred("q", 0, 0), pred("é", 0, 1)}
	for range 20 {
		if got := b.Preds(); !slices.Equal(got, want) {
			t.Fatal(got)
		}
	}
	b.Reclaim(func(int) bool { return false })
	if got := b.Preds(); !slices.Equal(got, want) {
		t.Error(got)
	}
}

// many answers a thing n times.
func many[T any](n int, x T) []T {
	l := make([]T, n)
	for j := range l {
		l[j] = x
	}
	return l
}

// P19.3: which killed clauses are asked about, and which of them go.
func TestReclaim(t *testing.T) {
	b := made(t, 30)
	for id := range 8 {
		adds(t, b, c("p", i(id)), false, id)
	}
	if b.Reclaim(never(t)) != 0 {
		t.Error("nothing was killed")
	}
	for _, id := range []int{6, 2, 5, 0} {
		kills(t, b, id)
	}
	generation := b.Generation()
	var asked []int
	n := b.Reclaim(func(id int) bool {
		asked = append(asked, id)
		return id == 5
	})
	if n != 3 || !slices.Equal(asked, []int{0, 2, 5, 6}) || b.Slots() != 5 || b.Generation() != generation {
		t.Error(n, asked, b.Slots(), b.Generation())
	}
	tells(t, b, "p", 1, anyKey(), generation, 1, 3, 4, 7)
	tells(t, b, "p", 1, anyKey(), 8, 1, 3, 4, 5, 7)
	asked = nil
	if n := b.Reclaim(func(id int) bool { asked = append(asked, id); return true }); n != 0 || !slices.Equal(asked, []int{5}) {
		t.Error(n, asked)
	}
	if n := b.Reclaim(func(id int) bool { return false }); n != 1 || b.Slots() != 4 || b.Reclaim(never(t)) != 0 {
		t.Error(n, b.Slots())
	}
}

// R1: a function that panics, or is none, leaves all as it is; one that calls the base, as it may not, makes nothing panic.
func TestReclaimPanics(t *testing.T) {
	laid := func() *base.Base {
		b := made(t, 30)
		for id := range 4 {
			adds(t, b, c("p", i(id)), false, id)
			kills(t, b, id)
		}
		return b
	}
	for _, used := range []func(int) bool{nil, func(id int) bool {
		if id == 2 {
			panic("no")
		}
		return false
	}} {
		b := laid()
		if n := b.Reclaim(used); n != 0 || b.Slots() != 4 {
			t.Error(n, b.Slots())
		}
	}
	for _, call := range []func(b *base.Base){
		func(b *base.Base) { b.Reclaim(func(int) bool { return false }) },
		func(b *base.Base) {
			b.Reclaim(func(int) bool { return false })
			b.Add(fact(a("q")), nil, false)
		},
		func(b *base.Base) { b.Add(fact(a("q")), nil, true); b.Kill(4) },
	} {
		b := laid()
		b.Reclaim(func(int) bool { call(b); return false })
		living := 0
		for _, p := range b.Preds() {
			living += p.Clauses
		}
		if n := b.Slots(); n < living || b.Reclaim(func(int) bool { return false }) != n-living || b.Slots() != living {
			t.Error(n, living, b.Slots())
		}
	}
}

// P19.3: of a base that New did not make, whatever is asked.
func TestClosed(t *testing.T) {
	for _, b := range []*base.Base{nil, new(base.Base)} {
		for _, head := range []api.Term{a("p"), v(0)} {
			if id, e := b.Add(fact(head), nil, true); id != 0 || e != api.ErrClosed {
				t.Error("Add", id, e)
			}
		}
		for _, id := range []int{-1, 0, 1} {
			if b.Kill(id) != api.ErrClosed || b.Lives(id, 0) || b.Size(id) != 0 {
				t.Error("Kill, Lives, Size", id)
			}
			if next, ok := b.Next(id, anyKey(), 0); next != 0 || ok {
				t.Error("Next", id)
			}
			if whole, e := b.Clause(id); e != api.ErrClosed || !reflect.DeepEqual(whole, api.Clause{}) {
				t.Error("Clause", id, e)
			}
			if l, e := b.Code(id); e != api.ErrClosed || l != nil {
				t.Error("Code", id, e)
			}
			if x, ok := b.At(id, 0); ok || x != (api.Instr{}) {
				t.Error("At", id)
			}
		}
		if id, ok := b.Head("p", 0, anyKey(), 0); id != 0 || ok || b.Known("p", 0) {
			t.Error("Head, Known")
		}
		if b.Generation() != 0 || len(b.Preds()) != 0 || b.Slots() != 0 || b.Reclaim(never(t)) != 0 || b.Reclaim(nil) != 0 {
			t.Error("Generation, Preds, Slots, Reclaim")
		}
	}
}

// R4: two bases have nothing to do with each other.
func TestBasesApart(t *testing.T) {
	one, two := made(t, 5), made(t, 5)
	adds(t, one, a("p"), false, 0)
	adds(t, two, a("q"), false, 0)
	adds(t, two, a("p"), false, 1)
	kills(t, one, 0)
	tells(t, one, "p", 0, anyKey(), 2)
	tells(t, two, "p", 0, anyKey(), 2, 1)
	if one.Known("q", 0) || !two.Known("q", 0) {
		t.Error("Known")
	}
}
