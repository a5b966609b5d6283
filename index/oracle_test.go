package index_test

import (
	"slices"
	"testing"

	"elenchus/api"
	"elenchus/index"
)

// A table again, by other means: one list, in which all is looked for from its beginning on.

type pair struct {
	id  int
	key api.Key
}

type list []pair

// meet tells whether keys meet.
func meet(a, b api.Key) bool {
	switch {
	case a.Kind == api.KeyAny, b.Kind == api.KeyAny:
		return true
	}
	return a.Kind == b.Kind && a.S == b.S && a.N == b.N
}

// find answers where the entry of a number stands; -1 without one.
func (l list) find(id int) int {
	for at, p := range l {
		if p.id == id {
			return at
		}
	}
	return -1
}

// from answers the first entry from a place on that meets a key.
func (l list) from(at int, k api.Key) (int, bool) {
	for _, p := range l[at:] {
		if meet(p.key, k) {
			return p.id, true
		}
	}
	return 0, false
}

// all answers all entries that meet a key.
func (l list) all(k api.Key) []int {
	var ids []int
	for _, p := range l {
		if meet(p.key, k) {
			ids = append(ids, p.id)
		}
	}
	return ids
}

// source is a row of numbers that look random.
type source uint64

func (s *source) next(n int) int {
	*s = *s*6364136223846793005 + 1442695040888963407
	return int(uint64(*s) >> 33 % uint64(n))
}

// key answers one of a few keys.
func (s *source) key() api.Key {
	keys := []api.Key{anyKey(), anyKey(), {S: "a"}, intKey(0), intKey(1), atomKey("a"), atomKey("b"), compKey("a", 1), compKey("a", 2)}
	return keys[s.next(len(keys))]
}

// hold holds a table against a list.
func hold(t *testing.T, table *index.Table, l list, ids int, k api.Key) {
	t.Helper()
	if table.Len() != len(l) {
		t.Fatal(table.Len(), l)
	}
	meets(t, table, k, l.all(k)...)
	for id := range ids {
		want, found := 0, false
		if at := l.find(id); at >= 0 {
			want, found = l.from(at+1, k)
		}
		if got, ok := table.Next(id, k); got != want || ok != found {
			t.Fatal(id, k, got, ok, l)
		}
	}
	want, found := l.from(0, k)
	if got, ok := table.Head(k); got != want || ok != found {
		t.Fatal(k, got, ok, l)
	}
}

// P18.2, P18.3: whatever is added and dropped.
func TestManyEntries(t *testing.T) {
	for seed := range 60 {
		s := source(seed)
		table := index.New()
		var l list
		ids := 1 + seed
		for range 200 {
			id, k := s.next(ids), s.key()
			at := l.find(id)
			if s.next(2) == 0 {
				front := s.next(2) == 0
				want := api.OK
				switch {
				case at >= 0:
					want = api.ErrTwice
				case front:
					l = append(list{{id, k}}, l...)
				default:
					l = append(l, pair{id, k})
				}
				if e := table.Add(id, k, front); e != want {
					t.Fatal(id, e, want)
				}
			} else {
				want := api.ErrNone
				if at >= 0 {
					want = api.OK
					l = slices.Delete(l, at, at+1)
				}
				if e := table.Drop(id); e != want {
					t.Fatal(id, e, want)
				}
			}
			hold(t, table, l, ids, s.key())
		}
	}
}
