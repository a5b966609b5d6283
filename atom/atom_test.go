package atom

import (
	"slices"
	"strconv"
	"strings"
	"testing"
	"unsafe"

	"elenchus/api"
)

const (
	most   = 1<<63 - 1
	lowest = -1 << 63
)

// first are the reserved names as the chapter tells them.
var first = strings.Fields(`[] . {} - , ; -> :- | ! \+ true fail call error`)

// none are numbers that no slot has.
var none = []int{-1, lowest, api.MaxAtoms, 1 << 32, 1<<32 + 1, most}

// made answers a table of that limit with those names behind the reserved ones.
func made(t *testing.T, limit int, names ...string) *Table {
	t.Helper()
	a, e := New(limit)
	if a == nil || e != api.OK {
		t.Fatalf("New(%d): %v, %d", limit, a, e)
	}
	for i, name := range names {
		interns(t, a, name, len(first)+i)
	}
	return a
}

// interns has the table intern the name, which must get that number.
func interns(t *testing.T, a *Table, name string, id int) {
	t.Helper()
	if n, e := a.Intern(name); n != id || e != api.OK {
		t.Errorf("Intern(%.20q) = %d, %d, not %d", name, n, e, id)
	}
}

// refuses has the table refuse the name.
func refuses(t *testing.T, a *Table, name string, want api.Errno) {
	t.Helper()
	if n, e := a.Intern(name); n != 0 || e != want {
		t.Errorf("Intern(%.20q) = %d, %d, not error %d", name, n, e, want)
	}
}

// marks marks these slots.
func marks(t *testing.T, a *Table, ids ...int) {
	t.Helper()
	for _, id := range ids {
		if e := a.Mark(id); e != api.OK || !a.Marked(id) {
			t.Errorf("Mark(%d): %d, %v", id, e, a.Marked(id))
		}
	}
}

// holds checks all that tells what a table has: the names by slots (a slot of the name free is free), and how many were made.
func holds(t *testing.T, a *Table, made int, names ...string) {
	t.Helper()
	names = append(slices.Clone(first), names...)
	used := 0
	for id, name := range names {
		if name == free {
			if s, e := a.Name(id); s != "" || e != api.ErrNone {
				t.Errorf("Name(%d) = %q, %d of a free slot", id, s, e)
			}
			continue
		}
		used++
		if s, e := a.Name(id); s != name || e != api.OK {
			t.Errorf("Name(%d) = %q, %d, not %q", id, s, e, name)
		}
		if n, is := a.Find(name); n != id || !is {
			t.Errorf("Find(%q) = %d, %v, not %d", name, n, is, id)
		}
	}
	if a.Len() != used || a.Slots() != len(names) || a.Made() != made {
		t.Errorf("Len %d, Slots %d, Made %d, not %d, %d, %d", a.Len(), a.Slots(), a.Made(), used, len(names), made)
	}
	if s, e := a.Name(len(names)); s != "" || e != api.ErrNone {
		t.Errorf("Name(%d) = %q, %d behind all", len(names), s, e)
	}
}

// free stands for a free slot's name: it is too long for one.
var free = strings.Repeat("free", 20)

// P4.1: the reserved names, in a list of one's own.
func TestReserved(t *testing.T) {
	l := Reserved()
	if !slices.Equal(l, first) || len(l) != 15 {
		t.Error(l)
	}
	l = l[:cap(l)]
	for i := range l {
		l[i] = "x"
	}
	if !slices.Equal(Reserved(), first) {
		t.Error("an answer changed them:", Reserved())
	}
	holds(t, made(t, 20), 0)
}

// P4.1: limits that may be, and those that may not.
func TestNew(t *testing.T) {
	for _, limit := range []int{len(first), len(first) + 1, 1000, api.MaxAtoms - 1, api.MaxAtoms} {
		holds(t, made(t, limit), 0)
	}
	for _, limit := range []int{0, 1, len(first) - 1, -1, lowest, api.MaxAtoms + 1, 1 << 32, most} {
		if a, e := New(limit); a != nil || e != api.ErrArg {
			t.Errorf("New(%d) = %v, %d", limit, a, e)
		}
	}
}

// P4.1: the reserved names are there whatever is asked first.
func TestReservedFromTheBeginning(t *testing.T) {
	for i, ask := range []func(a *Table) bool{
		func(a *Table) bool { n, e := a.Intern("true"); return n == 11 && e == api.OK },
		func(a *Table) bool { n, e := a.Intern("new"); return n == 15 && e == api.OK },
		func(a *Table) bool { n, is := a.Find(`\+`); return n == 10 && is },
		func(a *Table) bool { s, e := a.Name(4); return s == "," && e == api.OK },
		func(a *Table) bool { return a.Len() == 15 },
		func(a *Table) bool { return a.Slots() == 15 },
		func(a *Table) bool { return a.Made() == 0 },
		func(a *Table) bool { return a.Mark(14) == api.OK && a.Marked(14) },
		func(a *Table) bool { return a.Mark(15) == api.ErrNone },
		func(a *Table) bool { return !a.Marked(0) },
		func(a *Table) bool { return a.Sweep() == 0 },
	} {
		if !ask(made(t, 16)) {
			t.Error(i)
		}
	}
}

// P4.1: a table whose limit is just the number of the reserved names has these, and no others.
func TestLeastLimit(t *testing.T) {
	a := made(t, len(first))
	for id, name := range first {
		interns(t, a, name, id)
	}
	for _, name := range []string{"", "a", "true ", "True", "[ ]"} {
		refuses(t, a, name, api.ErrFull)
	}
	refuses(t, a, strings.Repeat("a", 65), api.ErrLong)
	if n := a.Sweep(); n != 0 {
		t.Error(n)
	}
	refuses(t, a, "a", api.ErrFull)
	holds(t, a, 0)
}

// P4.1: a name that is there keeps its number; new ones get the next slots.
func TestIntern(t *testing.T) {
	a := made(t, 100, "a", "b", "A", "c")
	interns(t, a, "b", 16)
	interns(t, a, "a", 15)
	interns(t, a, "error", 14)
	interns(t, a, "[]", 0)
	interns(t, a, "d", 19)
	holds(t, a, 5, "a", "b", "A", "c", "d")
}

// P4.1: any bytes up to MaxName of them are a name, none of them too.
func TestNames(t *testing.T) {
	l := []string{
		"", " ", "\x00", "\x00\x00", "\xff", "\xff\xfe", "\u00e9", "e\u0301", "\u65e5\u672c", "\n", "a\x00b", "a\x00c", "'", "X",
		strings.Repeat("x", 63), strings.Repeat("x", 64), strings.Repeat("y", 64), strings.Repeat("\u00e9", 32), strings.Repeat("x", 63) + "y",
	}
	a := made(t, 100, l...)
	holds(t, a, len(l), l...)
	for _, name := range []string{
		strings.Repeat("x", 65), strings.Repeat("\u00e9", 33), strings.Repeat("x", 64) + "\x00", strings.Repeat("x", 1000000),
	} {
		refuses(t, a, name, api.ErrLong)
		if n, is := a.Find(name); n != 0 || is {
			t.Errorf("Find(%.20q) = %d, %v", name, n, is)
		}
	}
	holds(t, a, len(l), l...)
}

// P4.1: what is not there is not found, and has no name; asking puts nothing in.
func TestNotThere(t *testing.T) {
	a := made(t, 100, "a")
	for _, name := range []string{"", "b", "aa", "A", "a ", "tru", "truee"} {
		if n, is := a.Find(name); n != 0 || is {
			t.Errorf("Find(%q) = %d, %v", name, n, is)
		}
	}
	for _, id := range append([]int{16, 99, 100}, none...) {
		if s, e := a.Name(id); s != "" || e != api.ErrNone {
			t.Errorf("Name(%d) = %q, %d", id, s, e)
		}
	}
	holds(t, a, 1, "a")
}

// P4.1: a full table refuses new names, till one goes; too long ones are too long all the same.
func TestFull(t *testing.T) {
	a := made(t, len(first)+2, "a", "b")
	refuses(t, a, "c", api.ErrFull)
	refuses(t, a, "", api.ErrFull)
	refuses(t, a, free, api.ErrLong)
	interns(t, a, "b", 16)
	interns(t, a, "true", 11)
	holds(t, a, 2, "a", "b")
	marks(t, a, 16)
	if n := a.Sweep(); n != 1 {
		t.Error(n)
	}
	interns(t, a, "c", 15)
	refuses(t, a, "a", api.ErrFull)
	holds(t, a, 3, "c", "b")
}

// P4.1, P4.2: the greatest limit is filled to its last slot.
func TestGreatestLimit(t *testing.T) {
	a := made(t, api.MaxAtoms)
	for id := len(first); id < api.MaxAtoms; id++ {
		interns(t, a, strconv.Itoa(id), id)
	}
	refuses(t, a, "more", api.ErrFull)
	if a.Len() != api.MaxAtoms || a.Slots() != api.MaxAtoms || a.Made() != api.MaxAtoms-len(first) {
		t.Error(a.Len(), a.Slots(), a.Made())
	}
	for _, id := range []int{15, 16, 8191, api.MaxAtoms - 1} {
		if s, e := a.Name(id); s != strconv.Itoa(id) || e != api.OK {
			t.Error(id, s, e)
		}
	}
	marks(t, a, api.MaxAtoms-1, 17)
	if n := a.Sweep(); n != api.MaxAtoms-len(first)-2 {
		t.Error(n)
	}
	for _, id := range []int{15, 16, 18, 19} {
		interns(t, a, "new"+strconv.Itoa(id), id)
	}
	interns(t, a, strconv.Itoa(api.MaxAtoms-1), api.MaxAtoms-1)
	if a.Len() != len(first)+6 || a.Slots() != api.MaxAtoms || a.Made() != api.MaxAtoms-len(first)+4 {
		t.Error(a.Len(), a.Slots(), a.Made())
	}
}

// P4.2: the chapter's example.
func TestSlotTakenAgain(t *testing.T) {
	a := made(t, 100, "a", "b")
	marks(t, a, 16)
	if n := a.Sweep(); n != 1 {
		t.Error(n)
	}
	holds(t, a, 2, free, "b")
	if n, is := a.Find("a"); n != 0 || is {
		t.Error("a is still found", n)
	}
	interns(t, a, "c", 15)
	interns(t, a, "a", 17)
	holds(t, a, 4, "c", "b", "a")
}

// P4.2: what may be marked, and that a mark is of one slot.
func TestMark(t *testing.T) {
	a := made(t, 100, "a", "b", "c")
	for id := range 18 {
		if a.Marked(id) {
			t.Errorf("%d is marked from the beginning on", id)
		}
	}
	marks(t, a, 16, 16, 0)
	for _, id := range append([]int{18, 99, 100}, none...) {
		if e := a.Mark(id); e != api.ErrNone || a.Marked(id) {
			t.Errorf("Mark(%d): %d, %v", id, e, a.Marked(id))
		}
	}
	for id := range 20 {
		if a.Marked(id) != (id == 16 || id == 0) {
			t.Errorf("Marked(%d) = %v", id, a.Marked(id))
		}
	}
	interns(t, a, "b", 16)
	if !a.Marked(16) {
		t.Error("Intern took the mark away")
	}
	if n := a.Sweep(); n != 2 {
		t.Error(n)
	}
	for _, id := range []int{15, 17} {
		if e := a.Mark(id); e != api.ErrNone || a.Marked(id) {
			t.Errorf("Mark(%d) of a free slot: %d", id, e)
		}
	}
	holds(t, a, 3, free, "b", free)
}

// P4.2: Sweep takes all marks away, of reserved names too; the reserved names stay without marks.
func TestSweep(t *testing.T) {
	a := made(t, 100, "a", "b", "c", "d", "")
	marks(t, a, 0, 14, 15, 17, 19)
	if n := a.Sweep(); n != 2 {
		t.Error(n)
	}
	holds(t, a, 5, "a", free, "c", free, "")
	for id := range 20 {
		if a.Marked(id) {
			t.Errorf("%d is still marked", id)
		}
	}
	marks(t, a, 17)
	if n := a.Sweep(); n != 2 {
		t.Error(n)
	}
	holds(t, a, 5, free, free, "c", free, free)
	if n := a.Sweep(); n != 1 {
		t.Error(n)
	}
	if n := a.Sweep(); n != 0 {
		t.Error(n)
	}
	holds(t, a, 5, free, free, free, free, free)
	interns(t, a, "x", 15)
	holds(t, a, 6, "x", free, free, free, free)
}

// P4.2: a slot that is taken again is not marked.
func TestNoMarkInherited(t *testing.T) {
	a := made(t, 100, "a", "b")
	marks(t, a, 15)
	a.Sweep()
	interns(t, a, "c", 16)
	if a.Marked(15) || a.Marked(16) {
		t.Error("marked", a.Marked(15), a.Marked(16))
	}
	if n := a.Sweep(); n != 2 {
		t.Error(n)
	}
	interns(t, a, "b", 15)
	if a.Marked(15) {
		t.Error("marked")
	}
}

// P4.2: the lowest free slot is taken first, then new ones.
func TestLowestFirst(t *testing.T) {
	a := made(t, 100, "a", "b", "c", "d", "e")
	marks(t, a, 16, 18)
	a.Sweep()
	for i, id := range []int{15, 17, 19, 20, 21} {
		interns(t, a, "n"+strconv.Itoa(i), id)
	}
	marks(t, a, 15, 16, 17, 18, 19, 21)
	a.Sweep()
	interns(t, a, "m", 20)
	interns(t, a, "o", 22)
}

// P4.2: of a nil table, and of one that New did not make, whatever is asked.
func TestClosed(t *testing.T) {
	for _, a := range []*Table{nil, new(Table)} {
		for _, name := range []string{"", "true", free} {
			refuses(t, a, name, api.ErrClosed)
			if n, is := a.Find(name); n != 0 || is {
				t.Error("Find", name, n)
			}
		}
		for _, id := range append([]int{0, 1, 15}, none...) {
			if s, e := a.Name(id); s != "" || e != api.ErrClosed {
				t.Error("Name", id, s, e)
			}
			if a.Mark(id) != api.ErrClosed || a.Marked(id) {
				t.Error("Mark", id)
			}
		}
		if a.Len() != 0 || a.Slots() != 0 || a.Made() != 0 || a.Sweep() != 0 {
			t.Error("it has names")
		}
	}
}

// R3: a name that is a part of a long text is not kept with it.
func TestNameNotKept(t *testing.T) {
	long := strings.Repeat("abc", 1000)
	a := made(t, 100, long[:2])
	s, _ := a.Name(15)
	if s != "ab" || unsafe.StringData(s) == unsafe.StringData(long) {
		t.Errorf("%q shares what was handed in", s)
	}
}

// R4: two tables have nothing to do with each other.
func TestTablesApart(t *testing.T) {
	a, b := made(t, 16, "a"), made(t, 17, "b", "c")
	marks(t, a, 15)
	if b.Marked(15) || b.Sweep() != 2 {
		t.Error("a mark of another table")
	}
	holds(t, a, 1, "a")
	holds(t, b, 2, free, free)
}

// P4.1 to P4.3: a long row of calls is answered as a plain list of names answers it: names keep their numbers, till they are swept without a mark.
func TestLikeAList(t *testing.T) {
	for _, limit := range []int{16, 20, 40} {
		a := made(t, limit)
		names, marked := slices.Clone(first), make([]bool, limit)
		count, seed := 0, uint64(limit)
		next := func(n int) int {
			seed = seed*6364136223846793005 + 1442695040888963407
			return int(seed >> 33 % uint64(n))
		}
		for step := range 6000 {
			switch next(8) {
			case 0, 1, 2, 3:
				name := strconv.Itoa(next(2 * limit))
				id, want := slices.Index(names, name), api.OK
				if id < 0 {
					if id = slices.Index(names, free); id >= 0 {
						names[id] = name
						count++
					} else if len(names) < limit {
						id = len(names)
						names = append(names, name)
						count++
					} else {
						id, want = 0, api.ErrFull
					}
				}
				if n, e := a.Intern(name); n != id || e != want {
					t.Fatalf("step %d: Intern(%q) = %d, %d, not %d, %d", step, name, n, e, id, want)
				}
			case 4, 5, 6:
				id := next(limit)
				is := id < len(names) && names[id] != free
				if e := a.Mark(id); (e == api.OK) != is || !is && e != api.ErrNone {
					t.Fatalf("step %d: Mark(%d): %d", step, id, e)
				}
				marked[id] = marked[id] || is
			case 7:
				gone := 0
				for id := range names {
					if id >= len(first) && names[id] != free && !marked[id] {
						names[id] = free
						gone++
					}
				}
				clear(marked)
				if n := a.Sweep(); n != gone {
					t.Fatalf("step %d: Sweep %d, not %d", step, n, gone)
				}
			}
			holds(t, a, count, names[len(first):]...)
			for id, is := range marked {
				if a.Marked(id) != is {
					t.Fatalf("step %d: Marked(%d) = %v", step, id, !is)
				}
			}
			if t.Failed() {
				t.Fatalf("step %d", step)
			}
		}
	}
}

// P4.3: unlike names have unlike numbers, and keep them.
func TestUnlikeNames(t *testing.T) {
	a := made(t, 5000)
	ids := map[int]string{}
	for i := range 4000 {
		name := "n" + strconv.Itoa(i*i)
		id, e := a.Intern(name)
		if other, is := ids[id]; is || e != api.OK {
			t.Fatalf("%q has the number %d (%d) of %q", name, id, e, other)
		}
		ids[id] = name
	}
	for id := range ids {
		if id%3 == 0 {
			marks(t, a, id)
		}
	}
	a.Sweep()
	for id, name := range ids {
		n, is := a.Find(name)
		if id%3 == 0 && (n != id || !is) || id%3 != 0 && is {
			t.Fatalf("Find(%q) = %d, %v, was %d", name, n, is, id)
		}
	}
}
