package index_test

import (
	"slices"
	"testing"

	"elenchus/api"
	"elenchus/index"
)

// The terms of these tests are laid by hand.

func v(n int) api.Term    { return api.Term{Kind: api.KindVar, N: n} }
func i(n int) api.Term    { return api.Term{Kind: api.KindInt, N: n} }
func a(s string) api.Term { return api.Term{Kind: api.KindAtom, S: s} }
func c(s string, l ...api.Term) api.Term {
	return api.Term{Kind: api.KindComp, S: s, L: l}
}

// keys by hand.

func anyKey() api.Key          { return api.Key{} }
func intKey(n int) api.Key     { return api.Key{Kind: api.KeyInt, N: n} }
func atomKey(s string) api.Key { return api.Key{Kind: api.KeyAtom, S: s} }
func compKey(s string, n int) api.Key {
	return api.Key{Kind: api.KeyComp, S: s, N: n}
}

// P18.1: the key of a term; of whatever is none.
func TestKeyOf(t *testing.T) {
	for _, l := range []struct {
		t    api.Term
		want api.Key
	}{
		{v(0), anyKey()},
		{v(7), anyKey()},
		{i(0), intKey(0)},
		{i(7), intKey(7)},
		{i(-api.MaxInt), intKey(-api.MaxInt)},
		{a("a"), atomKey("a")},
		{a(""), atomKey("")},
		{a("[]"), atomKey("[]")},
		{c("f", v(0)), compKey("f", 1)},
		{c("f", i(7), a("b"), c("g", v(0))), compKey("f", 3)},
		{c(".", v(0), v(1)), compKey(".", 2)},
		{api.Term{}, anyKey()},
		{api.Term{N: 7, S: "a"}, anyKey()},
		{api.Term{Kind: 5, N: 7, S: "a", L: []api.Term{v(0)}}, anyKey()},
		{api.Term{Kind: -1, N: 7, S: "a"}, anyKey()},

		// What stands in fields that are not the kind's is not the key's.
		{api.Term{Kind: api.KindVar, N: 1, S: "a", L: []api.Term{v(0)}}, anyKey()},
		{api.Term{Kind: api.KindInt, N: 1, S: "a", L: []api.Term{v(0)}}, intKey(1)},
		{api.Term{Kind: api.KindAtom, N: 1, S: "a", L: []api.Term{v(0)}}, atomKey("a")},
		{api.Term{Kind: api.KindComp, N: 1, S: "a", L: []api.Term{v(0), v(0)}}, compKey("a", 2)},
		{c("f"), compKey("f", 0)},
	} {
		if got := index.KeyOf(l.t); got != l.want {
			t.Error(l.t, got, l.want)
		}
	}
}

// P18.1: the key of the first argument; KeyAny of what has none.
func TestFirst(t *testing.T) {
	for _, l := range []struct {
		t    api.Term
		want api.Key
	}{
		{c("p", i(7)), intKey(7)},
		{c("p", a("b")), atomKey("b")},
		{c("p", a("b"), i(7)), atomKey("b")},
		{c("p", v(3), a("b")), anyKey()},
		{c("p", c("f", a("a"), v(0)), a("b")), compKey("f", 2)},
		{c("p", api.Term{}), anyKey()},
		{v(0), anyKey()},
		{i(7), anyKey()},
		{a("p"), anyKey()},
		{c("p"), anyKey()},
		{api.Term{}, anyKey()},
		{api.Term{Kind: api.KindAtom, S: "a", L: []api.Term{i(7)}}, anyKey()},
		{api.Term{Kind: 5, S: "a", L: []api.Term{i(7)}}, anyKey()},
	} {
		if got := index.First(l.t); got != l.want {
			t.Error(l.t, got, l.want)
		}
	}
}

// P18.1: keys meet, if one is KeyAny, or both are the same.
func TestMeet(t *testing.T) {
	keys := []api.Key{intKey(0), intKey(1), atomKey(""), atomKey("a"), atomKey("b"), compKey("a", 1), compKey("a", 2), compKey("b", 1), {Kind: 7}, {Kind: -1}, {Kind: api.KeyAtom, S: "a", N: 1}, {Kind: api.KeyInt, S: "a"}}
	anys := []api.Key{anyKey(), {S: "a"}, {N: 1}}
	for n, k := range keys {
		for m, other := range keys {
			if index.Meet(k, other) != (n == m) {
				t.Error(k, other)
			}
		}
		for _, other := range anys {
			if !index.Meet(k, other) || !index.Meet(other, k) {
				t.Error(k, other)
			}
		}
	}
	for _, k := range anys {
		for _, other := range anys {
			if !index.Meet(k, other) {
				t.Error(k, other)
			}
		}
	}
}

// laid answers a table of these keys, by the numbers 10, 20, ..
func laid(t *testing.T, keys ...api.Key) *index.Table {
	t.Helper()
	table := index.New()
	for n, k := range keys {
		if e := table.Add(10*(n+1), k, false); e != api.OK {
			t.Fatal(k, e)
		}
	}
	return table
}

// steps answers what Head and Next tell, again and again.
func steps(table *index.Table, k api.Key) []int {
	var l []int
	id, ok := table.Head(k)
	for ok {
		l = append(l, id)
		id, ok = table.Next(id, k)
	}
	return l
}

// meets tests that just these entries are met by a key.
func meets(t *testing.T, table *index.Table, k api.Key, want ...int) {
	t.Helper()
	if got := table.All(k); !slices.Equal(got, want) {
		t.Error("all of", k, "are", got, "not", want)
	}
	if got := steps(table, k); !slices.Equal(got, want) {
		t.Error("steps of", k, "are", got, "not", want)
	}
}

// P18.2, P18.3: which entries are met, in order.
func TestEntries(t *testing.T) {
	table := laid(t, compKey("f", 1), anyKey(), atomKey("b"))
	meets(t, table, atomKey("c"), 20)
	meets(t, table, atomKey("b"), 20, 30)
	meets(t, table, compKey("f", 1), 10, 20)
	meets(t, table, compKey("f", 2), 20)
	meets(t, table, anyKey(), 10, 20, 30)
	meets(t, table, api.Key{S: "x", N: 3}, 10, 20, 30)

	table = laid(t, intKey(1), intKey(2), intKey(1), anyKey(), intKey(1), api.Key{S: "x"}, atomKey("1"), intKey(2))
	meets(t, table, intKey(1), 10, 30, 40, 50, 60)
	meets(t, table, intKey(2), 20, 40, 60, 80)
	meets(t, table, intKey(3), 40, 60)
	meets(t, table, atomKey("1"), 40, 60, 70)
	meets(t, table, anyKey(), 10, 20, 30, 40, 50, 60, 70, 80)

	meets(t, laid(t), anyKey())
	meets(t, laid(t), atomKey("a"))
	meets(t, laid(t, atomKey("a")), atomKey("b"))
}

// P18.2: Next goes on behind any entry, met or not; behind none it is nothing.
func TestNext(t *testing.T) {
	table := laid(t, atomKey("a"), atomKey("b"), anyKey(), atomKey("a"), atomKey("b"))
	for _, l := range []struct {
		after int
		k     api.Key
		want  int
		ok    bool
	}{
		{10, atomKey("a"), 30, true},
		{10, atomKey("b"), 20, true},
		{10, atomKey("c"), 30, true},
		{10, anyKey(), 20, true},
		{20, atomKey("b"), 30, true},
		{20, atomKey("a"), 30, true},
		{30, atomKey("a"), 40, true},
		{30, atomKey("b"), 50, true},
		{30, atomKey("c"), 0, false},
		{40, atomKey("a"), 0, false},
		{40, anyKey(), 50, true},
		{50, anyKey(), 0, false},
		{50, atomKey("b"), 0, false},
		{0, anyKey(), 0, false},
		{11, anyKey(), 0, false},
		{-10, atomKey("a"), 0, false},
	} {
		if got, ok := table.Next(l.after, l.k); got != l.want || ok != l.ok {
			t.Error(l.after, l.k, got, ok)
		}
	}
	if got, ok := table.Head(atomKey("c")); got != 30 || !ok {
		t.Error(got, ok)
	}
	if got, ok := index.New().Head(anyKey()); got != 0 || ok {
		t.Error(got, ok)
	}
	if got, ok := laid(t, atomKey("a")).Head(atomKey("b")); got != 0 || ok {
		t.Error(got, ok)
	}
}

// P18.2: entries ahead of all, and behind all, by any numbers.
func TestFront(t *testing.T) {
	const most = 1<<63 - 1
	table := index.New()
	for _, l := range []struct {
		id    int
		front bool
	}{{0, true}, {-1, true}, {most, false}, {-most - 1, true}, {5, false}} {
		if e := table.Add(l.id, atomKey("a"), l.front); e != api.OK {
			t.Fatal(l, e)
		}
	}
	meets(t, table, atomKey("a"), -most-1, -1, 0, most, 5)
	meets(t, table, anyKey(), -most-1, -1, 0, most, 5)
	if table.Len() != 5 {
		t.Error(table.Len())
	}
}

// P18.2: what Add and Drop refuse; nothing has changed then.
func TestRefused(t *testing.T) {
	table := laid(t, atomKey("a"), atomKey("b"))
	for _, front := range []bool{false, true} {
		if e := table.Add(10, intKey(7), front); e != api.ErrTwice {
			t.Error(e)
		}
	}
	for _, id := range []int{0, 11, 30, -10} {
		if e := table.Drop(id); e != api.ErrNone {
			t.Error(id, e)
		}
	}
	meets(t, table, anyKey(), 10, 20)
	meets(t, table, intKey(7))
	if table.Len() != 2 {
		t.Error(table.Len())
	}
}

// P18.2: what is dropped is there no more, and may come back elsewhere, with another key.
func TestDrop(t *testing.T) {
	table := laid(t, atomKey("a"), anyKey(), atomKey("a"), atomKey("b"))
	drop := func(id int, want api.Errno) {
		t.Helper()
		if e := table.Drop(id); e != want {
			t.Error(id, e)
		}
	}
	drop(20, api.OK)
	drop(20, api.ErrNone)
	meets(t, table, atomKey("a"), 10, 30)
	meets(t, table, atomKey("c"))
	meets(t, table, anyKey(), 10, 30, 40)
	if id, ok := table.Next(20, anyKey()); id != 0 || ok {
		t.Error(id, ok)
	}
	drop(10, api.OK)
	drop(30, api.OK)
	meets(t, table, atomKey("a"))
	meets(t, table, anyKey(), 40)
	if e := table.Add(10, atomKey("b"), false); e != api.OK {
		t.Error(e)
	}
	if e := table.Add(20, atomKey("a"), true); e != api.OK {
		t.Error(e)
	}
	meets(t, table, atomKey("a"), 20)
	meets(t, table, atomKey("b"), 40, 10)
	meets(t, table, anyKey(), 20, 40, 10)
	drop(40, api.OK)
	drop(10, api.OK)
	drop(20, api.OK)
	meets(t, table, anyKey())
	if table.Len() != 0 {
		t.Error(table.Len())
	}
}

// P18.2: as many entries as there may be, and one more.
func TestFull(t *testing.T) {
	table := index.New()
	for id := range api.MaxEntries {
		if e := table.Add(id, intKey(id%3), id%2 == 0); e != api.OK {
			t.Fatal(id, e)
		}
	}
	for _, front := range []bool{false, true} {
		if e := table.Add(api.MaxEntries, intKey(0), front); e != api.ErrFull {
			t.Error(e)
		}
		if e := table.Add(7, intKey(0), front); e != api.ErrTwice {
			t.Error(e)
		}
	}
	if table.Len() != api.MaxEntries || len(table.All(anyKey())) != api.MaxEntries || len(table.All(intKey(0))) != (api.MaxEntries+2)/3 {
		t.Error(table.Len(), len(table.All(anyKey())), len(table.All(intKey(0))))
	}
	if e := table.Drop(7); e != api.OK {
		t.Error(e)
	}
	if e := table.Add(api.MaxEntries, intKey(5), false); e != api.OK {
		t.Error(e)
	}
	meets(t, table, intKey(5), api.MaxEntries)
	if e := table.Add(7, intKey(0), false); e != api.ErrFull {
		t.Error(e)
	}
}

// P18.2: of a nil Table, and of one that no call made.
func TestClosed(t *testing.T) {
	for _, table := range []*index.Table{nil, {}} {
		if e := table.Add(1, anyKey(), false); e != api.ErrClosed {
			t.Error(e)
		}
		if e := table.Drop(1); e != api.ErrClosed {
			t.Error(e)
		}
		if id, ok := table.Head(anyKey()); id != 0 || ok {
			t.Error(id, ok)
		}
		if id, ok := table.Next(1, anyKey()); id != 0 || ok {
			t.Error(id, ok)
		}
		if l := table.All(anyKey()); len(l) > 0 || table.Len() != 0 {
			t.Error(l, table.Len())
		}
	}
}

// Tables know nothing of one another; and rule R3: what is answered is new memory.
func TestOwnMemory(t *testing.T) {
	table, other := laid(t, atomKey("a"), atomKey("a")), laid(t, anyKey())
	meets(t, other, anyKey(), 10)
	first := table.All(atomKey("a"))
	for j := range first[:cap(first)] {
		first[:cap(first)][j] = 99
	}
	meets(t, table, atomKey("a"), 10, 20)
	meets(t, table, anyKey(), 10, 20)
}
