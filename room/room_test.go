package room

import (
	"slices"
	"testing"

	"elenchus/api"
)

// made answers a room of that limit with those words.
func made(t *testing.T, limit int, words ...uint64) *Room {
	t.Helper()
	m, e := New(limit)
	if m == nil || e != api.OK {
		t.Fatalf("New(%d): %v, %d", limit, m, e)
	}
	for _, w := range words {
		if e := m.Push(w); e != api.OK {
			t.Fatalf("Push(%d): %d", w, e)
		}
	}
	return m
}

// holds checks all that tells what a room has.
func holds(t *testing.T, m *Room, most int, words ...uint64) {
	t.Helper()
	if l := m.Words(); !slices.Equal(l, words) {
		t.Errorf("words %v, not %v", l, words)
	}
	if m.Len() != len(words) {
		t.Errorf("Len %d, not %d", m.Len(), len(words))
	}
	if m.Most() != most {
		t.Errorf("Most %d, not %d", m.Most(), most)
	}
	for i, w := range words {
		if x, e := m.Get(i); x != w || e != api.OK {
			t.Errorf("Get(%d) = %d, %d, not %d", i, x, e, w)
		}
	}
}

func all(int, uint64) bool  { return true }
func none(int, uint64) bool { return false }

// P2.1: limits that may be, and those that may not.
func TestNew(t *testing.T) {
	for _, limit := range []int{0, 1, 2, 5, 1000, api.MaxRoom - 1, api.MaxRoom} {
		m := made(t, limit)
		if m.Limit() != limit {
			t.Errorf("Limit %d, not %d", m.Limit(), limit)
		}
		holds(t, m, 0)
	}
	for _, limit := range []int{-1, -1 << 63, api.MaxRoom + 1, 1 << 32, 1<<63 - 1} {
		if m, e := New(limit); m != nil || e != api.ErrArg {
			t.Errorf("New(%d) = %v, %d", limit, m, e)
		}
	}
}

// P2.1: a room of limit 0 is empty and full.
func TestNoRoom(t *testing.T) {
	m := made(t, 0)
	if m.Push(1) != api.ErrFull || m.Grow(1) != api.ErrFull || m.Grow(0) != api.OK || m.Grow(-1) != api.ErrArg {
		t.Error("it grows")
	}
	if w, e := m.Pop(); w != 0 || e != api.ErrNone {
		t.Error(w, e)
	}
	if w, e := m.Get(0); w != 0 || e != api.ErrNone {
		t.Error(w, e)
	}
	if m.Set(0, 1) != api.ErrNone || m.Cut(0) != api.OK || m.Cut(1) != api.ErrArg || m.Keep(none) != 0 {
		t.Error("it has words")
	}
	holds(t, m, 0)
}

// P2.1: limit 1 takes one word (the chapter's example).
func TestPushFull(t *testing.T) {
	m := made(t, 1)
	if e := m.Push(7); e != api.OK {
		t.Error(e)
	}
	if e := m.Push(8); e != api.ErrFull {
		t.Error(e)
	}
	holds(t, m, 1, 7)
}

// P2.1: the greatest limit is filled to its last word, by Push and by Grow.
func TestGreatestLimit(t *testing.T) {
	m := made(t, api.MaxRoom)
	for i := range api.MaxRoom {
		if e := m.Push(uint64(i)); e != api.OK {
			t.Fatal(i, e)
		}
	}
	if m.Push(0) != api.ErrFull || m.Grow(1) != api.ErrFull || m.Len() != api.MaxRoom || m.Most() != api.MaxRoom {
		t.Error("full", m.Len(), m.Most())
	}
	for _, i := range []int{0, 1, api.MaxRoom / 2, api.MaxRoom - 1} {
		if w, e := m.Get(i); w != uint64(i) || e != api.OK {
			t.Error(i, w, e)
		}
	}
	if m.Cut(1) != api.OK || m.Grow(api.MaxRoom) != api.ErrFull || m.Grow(api.MaxRoom-1) != api.OK || m.Len() != api.MaxRoom {
		t.Error("grown", m.Len())
	}
	if w, e := m.Get(api.MaxRoom - 1); w != 0 || e != api.OK {
		t.Error(w, e)
	}
}

// P2.1: Pop takes the highest word, till there is none.
func TestPop(t *testing.T) {
	m := made(t, 3, 4, 5, 6)
	for n := 3; n > 0; n-- {
		if w, e := m.Pop(); w != uint64(n+3) || e != api.OK || m.Len() != n-1 {
			t.Error(n, w, e, m.Len())
		}
	}
	for range 2 {
		if w, e := m.Pop(); w != 0 || e != api.ErrNone {
			t.Error(w, e)
		}
	}
	holds(t, m, 3)
}

// P2.1: Get and Set go by places that have a word.
func TestGetSet(t *testing.T) {
	m := made(t, 9, 10, 11, 12)
	for _, i := range []int{-1, -1 << 63, 3, 4, 8, 9, 1<<63 - 1} {
		if w, e := m.Get(i); w != 0 || e != api.ErrNone {
			t.Errorf("Get(%d) = %d, %d", i, w, e)
		}
		if e := m.Set(i, 99); e != api.ErrNone {
			t.Errorf("Set(%d): %d", i, e)
		}
	}
	holds(t, m, 3, 10, 11, 12)
	for i, w := range []uint64{0, 1<<64 - 1, 5} {
		if e := m.Set(i, w); e != api.OK {
			t.Error(i, e)
		}
	}
	holds(t, m, 3, 0, 1<<64-1, 5)
	m.Pop()
	if _, e := m.Get(2); e != api.ErrNone {
		t.Error("a word that is gone:", e)
	}
	if e := m.Set(2, 1); e != api.ErrNone {
		t.Error("a word that is gone:", e)
	}
}

// P2.1: Cut leaves the lowest words.
func TestCut(t *testing.T) {
	m := made(t, 9, 1, 2, 3, 4)
	for _, n := range []int{-1, -1 << 63, 5, 9, 10, 1<<63 - 1} {
		if e := m.Cut(n); e != api.ErrArg {
			t.Errorf("Cut(%d): %d", n, e)
		}
	}
	holds(t, m, 4, 1, 2, 3, 4)
	for _, n := range []int{4, 2, 2, 0, 0} {
		if e := m.Cut(n); e != api.OK {
			t.Errorf("Cut(%d): %d", n, e)
		}
		holds(t, m, 4, []uint64{1, 2, 3, 4}[:n]...)
	}
	if e := m.Cut(1); e != api.ErrArg {
		t.Error(e)
	}
}

// P2.1: Grow lays zeros, where other words were too, or nothing at all.
func TestGrow(t *testing.T) {
	m := made(t, 6, 1, 2, 3, 4)
	for n, want := range map[int]api.Errno{-1: api.ErrArg, -1 << 63: api.ErrArg, 3: api.ErrFull, 6: api.ErrFull, 1<<63 - 1: api.ErrFull} {
		if e := m.Grow(n); e != want {
			t.Errorf("Grow(%d): %d, not %d", n, e, want)
		}
	}
	holds(t, m, 4, 1, 2, 3, 4)
	m.Cut(1)
	if e := m.Grow(2); e != api.OK {
		t.Error(e)
	}
	holds(t, m, 4, 1, 0, 0)
	m.Push(9)
	m.Pop()
	if m.Grow(0) != api.OK || m.Grow(3) != api.OK || m.Grow(0) != api.OK || m.Grow(1) != api.ErrFull {
		t.Error("to the limit")
	}
	holds(t, m, 6, 1, 0, 0, 0, 0, 0)
	if e := m.Grow(-1); e != api.ErrArg {
		t.Error("full, and below 0:", e)
	}
}

// P2.2, R3: Words are a list of their own.
func TestWordsAreNew(t *testing.T) {
	m := made(t, 9, 1, 2, 3)
	l, k := m.Words(), m.Words()
	l[0] = 99
	l = append(l, 98)
	holds(t, m, 3, 1, 2, 3)
	if k[0] != 1 {
		t.Error("two answers share words")
	}
	m.Set(1, 77)
	m.Push(4)
	if k[1] != 2 || len(k) != 3 || l[3] != 98 {
		t.Error("an answer has changed", k, l)
	}
	if spare := k[:cap(k)]; len(spare) > 3 {
		spare[3] = 55
		holds(t, m, 4, 1, 77, 3, 4)
	}
}

// P2.2: keep is called of each place and word once, from the lowest one on.
func TestKeepAsks(t *testing.T) {
	m := made(t, 9, 5, 6, 5, 8)
	var places []int
	var words []uint64
	n := m.Keep(func(i int, w uint64) bool {
		places, words = append(places, i), append(words, w)
		return i != 0
	})
	if n != 1 || !slices.Equal(places, []int{0, 1, 2, 3}) || !slices.Equal(words, []uint64{5, 6, 5, 8}) {
		t.Error(n, places, words)
	}
	holds(t, m, 4, 6, 5, 8)
}

// P2.2: what is left closes up in its order, for each choice of what is kept.
func TestKeepLeaves(t *testing.T) {
	words := []uint64{3, 1, 4, 1, 5}
	for choice := range 1 << len(words) {
		var want []uint64
		for i, w := range words {
			if choice>>i&1 == 1 {
				want = append(want, w)
			}
		}
		m := made(t, 5, words...)
		if n := m.Keep(func(i int, w uint64) bool { return choice>>i&1 == 1 }); n != len(words)-len(want) {
			t.Errorf("choice %b: %d are gone", choice, n)
		}
		holds(t, m, 5, want...)
		for i := len(want); i < 5; i++ {
			if e := m.Push(9); e != api.OK {
				t.Errorf("choice %b: %d", choice, e)
			}
		}
		if e := m.Push(9); e != api.ErrFull {
			t.Errorf("choice %b: %d", choice, e)
		}
	}
}

// P2.2: an empty room asks nothing.
func TestKeepOfNothing(t *testing.T) {
	m := made(t, 3)
	asked := 0
	if n := m.Keep(func(int, uint64) bool { asked++; return false }); n != 0 || asked != 0 {
		t.Error(n, asked)
	}
	if n := m.Keep(nil); n != 0 {
		t.Error(n)
	}
	holds(t, m, 0)
}

// R1, R2: a function that is none, or that panics, changes nothing.
func TestKeepOfWrongFunctions(t *testing.T) {
	m := made(t, 9, 1, 2, 3, 4)
	if n := m.Keep(nil); n != 0 {
		t.Error(n)
	}
	holds(t, m, 4, 1, 2, 3, 4)
	n := m.Keep(func(i int, w uint64) bool {
		if i == 2 {
			panic("no")
		}
		return i == 1
	})
	if n != 0 {
		t.Error(n)
	}
	holds(t, m, 4, 1, 2, 3, 4)
	if n := m.Keep(all); n != 0 {
		t.Error(n)
	}
	if n := m.Keep(none); n != 4 {
		t.Error(n)
	}
	holds(t, m, 4)
}

// P2.2: Most goes up alone.
func TestMost(t *testing.T) {
	m := made(t, 9)
	for _, c := range []struct {
		do   func()
		most int
	}{
		{func() { m.Push(1) }, 1},
		{func() { m.Pop() }, 1},
		{func() { m.Grow(4) }, 4},
		{func() { m.Grow(6) }, 4},
		{func() { m.Cut(1) }, 4},
		{func() { m.Push(2); m.Push(3) }, 4},
		{func() { m.Keep(none) }, 4},
		{func() { m.Grow(5) }, 5},
		{func() { m.Push(1) }, 6},
		{func() { m.Cut(0) }, 6},
		{func() { m.Grow(9) }, 9},
		{func() { m.Push(1) }, 9},
	} {
		c.do()
		if m.Most() != c.most {
			t.Errorf("Most %d, not %d", m.Most(), c.most)
		}
	}
}

// P2.2: of a nil room, whatever it is asked.
func TestNilRoom(t *testing.T) {
	var m *Room
	for _, i := range []int{-1, 0, 1, 1<<63 - 1} {
		if w, e := m.Get(i); w != 0 || e != api.ErrClosed {
			t.Error("Get", i, w, e)
		}
		if m.Set(i, 1) != api.ErrClosed || m.Cut(i) != api.ErrClosed || m.Grow(i) != api.ErrClosed {
			t.Error("Set, Cut, Grow", i)
		}
	}
	if w, e := m.Pop(); w != 0 || e != api.ErrClosed {
		t.Error("Pop", w, e)
	}
	if e := m.Push(1); e != api.ErrClosed {
		t.Error("Push", e)
	}
	asked := 0
	ask := func(int, uint64) bool { asked++; return true }
	if m.Len() != 0 || m.Limit() != 0 || m.Most() != 0 || len(m.Words()) != 0 || m.Keep(ask) != 0 || m.Keep(nil) != 0 || asked != 0 {
		t.Error("it has something")
	}
}

// P2.3: what was pushed is popped, the last one first.
func TestLastOneFirst(t *testing.T) {
	m := made(t, 1000)
	for i := range 1000 {
		m.Push(uint64(i * i))
	}
	for i := 999; i >= 0; i-- {
		if w, e := m.Pop(); w != uint64(i*i) || e != api.OK {
			t.Fatal(i, w, e)
		}
	}
	holds(t, m, 1000)
}

// R4: two rooms have nothing to do with each other.
func TestRoomsApart(t *testing.T) {
	a, b := made(t, 4, 1, 2), made(t, 2, 7)
	a.Set(0, 9)
	b.Push(8)
	a.Pop()
	holds(t, a, 2, 9)
	holds(t, b, 2, 7, 8)
}

// P2.1 to P2.3: a long row of calls is answered as a plain list answers it.
func TestLikeAList(t *testing.T) {
	const limit = 12
	m, l, most := made(t, limit), []uint64{}, 0
	seed := uint64(5)
	next := func(n int) int {
		seed = seed*6364136223846793005 + 1442695040888963407
		return int(seed >> 33 % uint64(n))
	}
	for range 20000 {
		switch w := uint64(next(100)); next(6) {
		case 0:
			if m.Push(w) == api.OK {
				l = append(l, w)
			} else if len(l) < limit {
				t.Fatal("Push")
			}
		case 1:
			if x, e := m.Pop(); e == api.OK {
				if x != l[len(l)-1] {
					t.Fatal("Pop", x)
				}
				l = l[:len(l)-1]
			} else if len(l) > 0 {
				t.Fatal("Pop")
			}
		case 2:
			if i := next(limit); m.Set(i, w) == api.OK {
				l[i] = w
			} else if i < len(l) {
				t.Fatal("Set")
			}
		case 3:
			if n := next(limit); m.Cut(n) == api.OK {
				l = l[:n]
			} else if n <= len(l) {
				t.Fatal("Cut")
			}
		case 4:
			if n := next(4); m.Grow(n) == api.OK {
				l = append(l, make([]uint64, n)...)
			} else if n <= limit-len(l) {
				t.Fatal("Grow")
			}
		case 5:
			odd := func(w uint64) bool { return w%2 == 1 }
			n := len(l)
			l = slices.DeleteFunc(l, odd)
			if m.Keep(func(i int, w uint64) bool { return !odd(w) }) != n-len(l) {
				t.Fatal("Keep")
			}
		}
		most = max(most, len(l))
		if !slices.Equal(m.Words(), l) || m.Len() != len(l) || m.Most() != most || m.Limit() != limit {
			t.Fatal(m.Words(), l)
		}
	}
}
