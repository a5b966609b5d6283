package functor

import (
	"fmt"
	"slices"
	"strings"
	"testing"

	"elenchus/api"
	"elenchus/atom"
)

const (
	most   = 1<<63 - 1
	lowest = -1 << 63
)

// reserved is how many names each table of atoms has from its beginning on.
var reserved = len(atom.Reserved())

// none are numbers that no slot has.
var none = []int{-1, lowest, api.MaxFuns, 1 << 32, 1<<32 + 1, most}

// arities are those that may not be.
var arities = []int{0, -1, 17, 18, 1 << 32, 1<<32 + 1, lowest, most}

// names are texts of 64 and of 65 bytes.
var long, tooLong = strings.Repeat("n", 64), strings.Repeat("n", 65)

// fun is a functor; free stands for a free slot.
type fun struct {
	name  string
	arity int
}

var free fun

// names answers a table of atoms that has room for so many names besides the reserved ones.
func names(t *testing.T, more int) *atom.Table {
	t.Helper()
	a, e := atom.New(reserved + more)
	if e != api.OK {
		t.Fatal(e)
	}
	return a
}

// made answers a table of that limit beside ample atoms, with those functors in its first slots.
func made(t *testing.T, limit int, funs ...fun) (*Table, *atom.Table) {
	t.Helper()
	a := names(t, 1000)
	f, e := New(limit, a)
	if f == nil || e != api.OK {
		t.Fatalf("New(%d): %v, %d", limit, f, e)
	}
	for id, g := range funs {
		puts(t, f, g, id)
	}
	return f, a
}

// puts puts the functor, which must get that number.
func puts(t *testing.T, f *Table, g fun, id int) {
	t.Helper()
	if n, e := f.Put(g.name, g.arity); n != id || e != api.OK {
		t.Errorf("Put(%.20q, %d) = %d, %d, not %d", g.name, g.arity, n, e, id)
	}
}

// refuses has the table refuse the functor.
func refuses(t *testing.T, f *Table, g fun, want api.Errno) {
	t.Helper()
	if n, e := f.Put(g.name, g.arity); n != 0 || e != want {
		t.Errorf("Put(%.20q, %d) = %d, %d, not error %d", g.name, g.arity, n, e, want)
	}
}

// gets checks that the slot has the functor.
func gets(t *testing.T, f *Table, id int, g fun) {
	t.Helper()
	if s, n, e := f.Get(id); s != g.name || n != g.arity || e != api.OK {
		t.Errorf("Get(%d) = %.20q, %d, %d, not %v", id, s, n, e, g)
	}
}

// lacks checks that Get refuses the slot with ErrNone.
func lacks(t *testing.T, f *Table, id int) {
	t.Helper()
	if s, n, e := f.Get(id); s != "" || n != 0 || e != api.ErrNone {
		t.Errorf("Get(%d) = %q, %d, %d, not ErrNone", id, s, n, e)
	}
}

// finds checks that the functor is found so.
func finds(t *testing.T, f *Table, g fun, id int, is bool) {
	t.Helper()
	if n, found := f.Find(g.name, g.arity); n != id || found != is {
		t.Errorf("Find(%.20q, %d) = %d, %v, not %d, %v", g.name, g.arity, n, found, id, is)
	}
}

// holds checks all that tells what a table has, slot by slot.
func holds(t *testing.T, f *Table, funs ...fun) {
	t.Helper()
	used := 0
	for id, g := range funs {
		if g == free {
			lacks(t, f, id)
			continue
		}
		used++
		gets(t, f, id, g)
		finds(t, f, g, id, true)
	}
	lacks(t, f, len(funs))
	if f.Len() != used || f.Slots() != len(funs) {
		t.Errorf("Len %d, Slots %d, not %d, %d", f.Len(), f.Slots(), used, len(funs))
	}
}

// marks marks these slots.
func marks(t *testing.T, f *Table, ids ...int) {
	t.Helper()
	for _, id := range ids {
		if e := f.Mark(id); e != api.OK {
			t.Errorf("Mark(%d): %d", id, e)
		}
	}
}

// sweeps sweeps the table, which must lose so many functors.
func sweeps(t *testing.T, f *Table, gone int) {
	t.Helper()
	if n := f.Sweep(); n != gone {
		t.Errorf("Sweep: %d, not %d", n, gone)
	}
}

// P5.1: limits that may be, and those that may not; no table of atoms.
func TestNew(t *testing.T) {
	a := names(t, 10)
	for _, limit := range []int{1, 2, 1000, api.MaxFuns - 1, api.MaxFuns} {
		f, e := New(limit, a)
		if f == nil || e != api.OK {
			t.Fatalf("New(%d): %v, %d", limit, f, e)
		}
		holds(t, f)
		if f, e := New(limit, nil); f != nil || e != api.ErrArg {
			t.Errorf("New(%d, nil): %v, %d", limit, f, e)
		}
	}
	for _, limit := range []int{0, -1, lowest, api.MaxFuns + 1, 1 << 32, 1<<32 + 1, most} {
		for _, atoms := range []*atom.Table{a, nil} {
			if f, e := New(limit, atoms); f != nil || e != api.ErrArg {
				t.Errorf("New(%d): %v, %d", limit, f, e)
			}
		}
	}
}

// P5.1: the chapter's example, and that name and arity both tell functors apart.
func TestPut(t *testing.T) {
	l := []fun{{"f", 2}, {"f", 3}, {"g", 2}, {"", 1}, {"[]", 2}, {".", 2}, {"F", 2}, {"f", 1}, {"f", 16}}
	f, a := made(t, 100, l...)
	for id, g := range l {
		puts(t, f, g, id)
	}
	holds(t, f, l...)
	// Reserved names stay the atoms that they are.
	if a.Made() != 4 || a.Len() != reserved+4 {
		t.Error(a.Made(), a.Len())
	}
}

// P5.1: arities that may be, and those that may not, which are told ahead of all that is wrong with the name.
func TestArity(t *testing.T) {
	f, a := made(t, 100)
	for arity := 1; arity <= api.MaxArity; arity++ {
		puts(t, f, fun{"f", arity}, arity-1)
	}
	for _, arity := range arities {
		for _, name := range []string{"f", "new", "", long, tooLong} {
			refuses(t, f, fun{name, arity}, api.ErrArg)
			finds(t, f, fun{name, arity}, 0, false)
		}
	}
	if f.Len() != 16 || a.Made() != 1 {
		t.Error(f.Len(), a.Made())
	}
	// Also in a full table beside full atoms.
	full, e := New(1, names(t, 0))
	if e != api.OK {
		t.Fatal(e)
	}
	puts(t, full, fun{"-", 2}, 0)
	for _, arity := range arities {
		for _, name := range []string{"-", "new", tooLong} {
			refuses(t, full, fun{name, arity}, api.ErrArg)
		}
	}
}

// P5.1: names up to 64 bytes, any bytes.
func TestNames(t *testing.T) {
	l := []fun{
		{long, 1}, {long[1:], 1}, {"", 16}, {"\x00", 2}, {"\xff", 2}, {"\u00e9", 2}, {strings.Repeat("\u00e9", 32), 2}, {"a b", 2}, {"X", 2},
	}
	f, a := made(t, 100, l...)
	for _, name := range []string{tooLong, strings.Repeat("\u00e9", 33), long + "\x00", strings.Repeat("x", 1000000)} {
		for _, arity := range []int{1, 16} {
			refuses(t, f, fun{name, arity}, api.ErrLong)
			finds(t, f, fun{name, arity}, 0, false)
		}
	}
	holds(t, f, l...)
	if a.Made() != len(l) {
		t.Error(a.Made())
	}
}

// P5.1: a full table refuses what is not there, but its name is an atom then.
func TestFull(t *testing.T) {
	for limit := 1; limit <= 3; limit++ {
		f, a := made(t, limit)
		var l []fun
		for arity := 1; arity <= limit; arity++ {
			l = append(l, fun{"f", arity})
			puts(t, f, fun{"f", arity}, arity-1)
		}
		refuses(t, f, fun{"f", 16}, api.ErrFull)
		refuses(t, f, fun{"true", 1}, api.ErrFull)
		refuses(t, f, fun{tooLong, 1}, api.ErrLong)
		if a.Made() != 1 {
			t.Error("made", a.Made())
		}
		for range 2 {
			refuses(t, f, fun{"new", 1}, api.ErrFull)
			if id, is := a.Find("new"); id != reserved+1 || !is || a.Made() != 2 {
				t.Error("the name is no atom:", id, is, a.Made())
			}
		}
		for id, g := range l {
			puts(t, f, g, id)
		}
		holds(t, f, l...)
	}
}

// P5.1: full atoms refuse new names, whether the table is full or not; names that are there do.
func TestFullAtoms(t *testing.T) {
	a := names(t, 1)
	f, _ := New(3, a)
	puts(t, f, fun{"f", 1}, 0)
	refuses(t, f, fun{"g", 1}, api.ErrFull)
	refuses(t, f, fun{tooLong, 1}, api.ErrLong)
	holds(t, f, fun{"f", 1})
	puts(t, f, fun{"f", 2}, 1)
	puts(t, f, fun{"call", 16}, 2)
	refuses(t, f, fun{"g", 1}, api.ErrFull)
	refuses(t, f, fun{"f", 3}, api.ErrFull)
	puts(t, f, fun{"call", 16}, 2)
	holds(t, f, fun{"f", 1}, fun{"f", 2}, fun{"call", 16})
	if a.Made() != 1 || a.Len() != reserved+1 {
		t.Error(a.Made(), a.Len())
	}
}

// P5.1: the greatest limit is filled to its last slot.
func TestGreatestLimit(t *testing.T) {
	f, e := New(api.MaxFuns, names(t, 2000))
	if e != api.OK {
		t.Fatal(e)
	}
	at := func(id int) fun { return fun{fmt.Sprint("n", id/16), id%16 + 1} }
	for id := range api.MaxFuns {
		puts(t, f, at(id), id)
	}
	refuses(t, f, fun{"more", 1}, api.ErrFull)
	refuses(t, f, fun{tooLong, 1}, api.ErrLong)
	for id := range api.MaxFuns {
		gets(t, f, id, at(id))
		finds(t, f, at(id), id, true)
	}
	if f.Len() != api.MaxFuns || f.Slots() != api.MaxFuns {
		t.Error(f.Len(), f.Slots())
	}
	marks(t, f, api.MaxFuns-1, 1)
	sweeps(t, f, api.MaxFuns-2)
	for i, id := range []int{0, 2, 3} {
		puts(t, f, fun{"new", i + 1}, id)
	}
	puts(t, f, at(api.MaxFuns-1), api.MaxFuns-1)
	if f.Len() != 5 || f.Slots() != api.MaxFuns {
		t.Error(f.Len(), f.Slots())
	}
}

// P5.1: what is not there is not found, and asking puts nothing in, neither here nor in the atoms.
func TestNotThere(t *testing.T) {
	f, a := made(t, 100, fun{"f", 2})
	for _, g := range []fun{{"f", 1}, {"f", 3}, {"g", 2}, {"", 2}, {"f ", 2}, {"true", 2}, {"f", 0}, {"f", -1}, {"f", 2 + 1<<32}, {tooLong, 2}} {
		finds(t, f, g, 0, false)
	}
	for _, id := range append([]int{1, 2, 99, 100}, none...) {
		lacks(t, f, id)
	}
	holds(t, f, fun{"f", 2})
	if a.Made() != 1 {
		t.Error(a.Made())
	}
}

// P5.2: marks save functors from one sweep; slots that are free are taken again, the lowest one first.
func TestSweep(t *testing.T) {
	f, _ := made(t, 6, fun{"a", 1}, fun{"b", 1}, fun{"c", 1}, fun{"d", 1}, fun{"e", 1})
	marks(t, f, 1, 3, 3)
	sweeps(t, f, 3)
	holds(t, f, free, fun{"b", 1}, free, fun{"d", 1}, free)
	for _, name := range []string{"a", "c", "e"} {
		finds(t, f, fun{name, 1}, 0, false)
	}
	puts(t, f, fun{"e", 1}, 0)
	puts(t, f, fun{"b", 1}, 1)
	puts(t, f, fun{"b", 2}, 2)
	puts(t, f, fun{"c", 1}, 4)
	puts(t, f, fun{"g", 1}, 5)
	refuses(t, f, fun{"a", 1}, api.ErrFull)
	holds(t, f, fun{"e", 1}, fun{"b", 1}, fun{"b", 2}, fun{"d", 1}, fun{"c", 1}, fun{"g", 1})
	// The marks of the first sweep are gone.
	marks(t, f, 2)
	sweeps(t, f, 5)
	holds(t, f, free, free, fun{"b", 2}, free, free, free)
	sweeps(t, f, 1)
	sweeps(t, f, 0)
	holds(t, f, free, free, free, free, free, free)
	puts(t, f, fun{"a", 1}, 0)
	holds(t, f, fun{"a", 1}, free, free, free, free, free)
}

// P5.2: what may be marked.
func TestMark(t *testing.T) {
	f, _ := made(t, 100, fun{"a", 1}, fun{"b", 1})
	for _, id := range append([]int{2, 99, 100}, none...) {
		if e := f.Mark(id); e != api.ErrNone {
			t.Errorf("Mark(%d): %d", id, e)
		}
	}
	marks(t, f, 1)
	puts(t, f, fun{"b", 1}, 1)
	sweeps(t, f, 1)
	if e := f.Mark(0); e != api.ErrNone {
		t.Errorf("Mark of a free slot: %d", e)
	}
	// A slot that is taken again is not marked.
	puts(t, f, fun{"c", 1}, 0)
	sweeps(t, f, 2)
}

// P5.2: Atoms marks the names of all functors, marked or not, and of these alone.
func TestAtoms(t *testing.T) {
	f, a := made(t, 100)
	if n := f.Atoms(); n != 0 {
		t.Error(n)
	}
	for id, g := range []fun{{"f", 1}, {"g", 1}, {"f", 2}, {"true", 1}} {
		puts(t, f, g, id)
	}
	a.Intern("x")
	marks(t, f, 1)
	if n := f.Atoms(); n != 4 {
		t.Error(n)
	}
	for name, marked := range map[string]int{"f": 1, "g": 1, "true": 1, "x": 0, "fail": 0, "[]": 0} {
		if id, is := a.Find(name); !is || a.Marked(id) != (marked == 1) {
			t.Errorf("%s: %v, marked %v", name, is, a.Marked(id))
		}
	}
	// What was swept here needs its name no more.
	sweeps(t, f, 3)
	a.Sweep()
	if n := f.Atoms(); n != 1 {
		t.Error(n)
	}
	if n := a.Sweep(); n != 1 {
		t.Error(n)
	}
	for name, there := range map[string]int{"f": 0, "g": 1, "true": 1, "x": 0} {
		if _, is := a.Find(name); is != (there == 1) {
			t.Errorf("%s: %v", name, is)
		}
	}
	holds(t, f, free, fun{"g", 1}, free, free)
}

// P5.3: with Atoms ahead of each sweep of the atoms functors keep names and numbers.
func TestNamesStay(t *testing.T) {
	l := []fun{{"f", 1}, {"g", 2}, {"f", 3}, {"[]", 4}}
	f, a := made(t, 100, l...)
	for i := range 5 {
		a.Intern(fmt.Sprint("x", i))
		if n := f.Atoms(); n != len(l) {
			t.Error(n)
		}
		if n := a.Sweep(); n != 1 {
			t.Error(n)
		}
		holds(t, f, l...)
		marks(t, f, 0, 1, 2, 3)
		sweeps(t, f, 0)
		holds(t, f, l...)
	}
}

// P5.1: a functor whose name is swept stays in its slot, by its atom's number; Get tells what the atoms refuse.
func TestSweptName(t *testing.T) {
	f, a := made(t, 100, fun{"f", 1}, fun{"g", 2})
	id, _ := a.Find("g")
	a.Mark(id)
	if n := a.Sweep(); n != 1 {
		t.Fatal(n)
	}
	lacks(t, f, 0)
	gets(t, f, 1, fun{"g", 2})
	finds(t, f, fun{"f", 1}, 0, false)
	if f.Len() != 2 || f.Slots() != 2 || f.Atoms() != 2 {
		t.Error(f.Len(), f.Slots(), f.Atoms())
	}
	// The name's slot is taken by another name, which the functor has then.
	puts(t, f, fun{"h", 1}, 0)
	holds(t, f, fun{"h", 1}, fun{"g", 2})
	puts(t, f, fun{"f", 1}, 2)
	holds(t, f, fun{"h", 1}, fun{"g", 2}, fun{"f", 1})
	// A functor without a name is still marked and swept.
	a.Sweep()
	marks(t, f, 0)
	sweeps(t, f, 2)
	if f.Len() != 1 || f.Slots() != 3 {
		t.Error(f.Len(), f.Slots())
	}
	puts(t, f, fun{"h", 1}, 0)
	holds(t, f, fun{"h", 1}, free, free)
}

// P5.2: of a nil table, and of one that New did not make, whatever is asked.
func TestClosed(t *testing.T) {
	for _, f := range []*Table{nil, new(Table)} {
		for _, g := range []fun{{"f", 1}, {"f", 0}, {tooLong, 1}, {"", 17}} {
			refuses(t, f, g, api.ErrClosed)
			finds(t, f, g, 0, false)
		}
		for _, id := range append([]int{0, 1}, none...) {
			if s, n, e := f.Get(id); s != "" || n != 0 || e != api.ErrClosed {
				t.Error("Get", id, s, n, e)
			}
			if e := f.Mark(id); e != api.ErrClosed {
				t.Error("Mark", id, e)
			}
		}
		if f.Len() != 0 || f.Slots() != 0 || f.Sweep() != 0 || f.Atoms() != 0 {
			t.Error("it has something")
		}
	}
}

// R4: two tables beside the same atoms have but these in common.
func TestTablesApart(t *testing.T) {
	f, a := made(t, 3, fun{"f", 1}, fun{"g", 1})
	h, e := New(1, a)
	if e != api.OK {
		t.Fatal(e)
	}
	puts(t, h, fun{"g", 1}, 0)
	marks(t, f, 0)
	sweeps(t, h, 1)
	sweeps(t, f, 1)
	holds(t, f, fun{"f", 1}, free)
	holds(t, h, free)
}

// P5.1 to P5.3: a long row of calls is answered as a plain list answers it.
func TestLikeAList(t *testing.T) {
	const limit = 12
	f, a := made(t, limit)
	var l []fun
	marked := map[int]bool{}
	seed := uint64(3)
	next := func(n int) int {
		seed = seed*6364136223846793005 + 1442695040888963407
		return int(seed >> 33 % uint64(n))
	}
	for range 20000 {
		g := fun{string(rune('a' + next(6))), 1 + next(4)}
		switch id := next(limit); next(8) {
		case 0, 1, 2, 3:
			want := slices.Index(l, g)
			if want < 0 {
				want = slices.Index(l, free)
			}
			if want < 0 && len(l) == limit {
				refuses(t, f, g, api.ErrFull)
				break
			}
			if want < 0 {
				want, l = len(l), append(l, free)
			}
			l[want] = g
			puts(t, f, g, want)
		case 4, 5:
			is := id < len(l) && l[id] != free
			if (f.Mark(id) == api.OK) != is {
				t.Fatal("Mark", id)
			}
			marked[id] = marked[id] || is
		case 6:
			gone := 0
			for id, g := range l {
				if g != free && !marked[id] {
					l[id] = free
					gone++
				}
			}
			clear(marked)
			sweeps(t, f, gone)
		case 7:
			f.Atoms()
			a.Sweep()
		}
		holds(t, f, l...)
		if t.Failed() {
			t.FailNow()
		}
	}
}
