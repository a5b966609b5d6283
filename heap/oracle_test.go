package heap_test

import (
	"maps"
	"slices"
	"testing"

	"elenchus/api"
	"elenchus/cell"
	"elenchus/heap"
)

// A heap again, by other means: boxes that point at each other, each choice with all that stood in them when it began.

// box is a cell: it is unbound, or has a link to another one, or something else.
type box struct {
	at   int // the place of its cell
	segs int // how many choices there were when it was made, but for those that were closed
	has  any // nil, *box, *comp, int, string
}

// comp is a compound: its arguments are boxes.
type comp struct {
	at   int
	name string
	args []*box
}

// handle is a word, and what it stands for.
type handle struct {
	w    uint64
	what any // *box, *comp, int, string
}

// point is what stood in the boxes when a choice began, and which notes there were.
type point struct {
	boxes map[*box]any
	notes []*box
}

type boxes struct {
	all     []*box // those that are there
	notes   []*box // those that were bound though they are older than the last choice
	points  []point
	limit   int // of notes
	handles []handle
}

// source is a row of numbers that look random.
type source uint64

func (s *source) next(n int) int {
	*s = *s*6364136223846793005 + 1442695040888963407
	return int(uint64(*s) >> 33 % uint64(n))
}

// end answers what a thing is, links being followed.
func end(x any) any {
	b, is := x.(*box)
	if is && b.has != nil {
		return end(b.has)
	}
	return x
}

// inside tells whether a box, or a compound, is a part of a thing.
func inside(p, x any) bool {
	x = end(x)
	if x == p {
		return true
	}
	k, is := x.(*comp)
	return is && slices.ContainsFunc(k.args, func(b *box) bool { return inside(p, b) })
}

// bind has a box have a thing; it answers whether it does, and whether there is room.
func (m *boxes) bind(b *box, x any) (bool, api.Errno) {
	if x == b {
		return true, api.OK
	}
	if inside(b, x) {
		return false, api.OK
	}
	if b.segs < len(m.points) {
		if len(m.notes) == m.limit {
			return false, api.ErrFull
		}
		m.notes = append(m.notes, b)
	}
	b.has = x
	return true, api.OK
}

// unify unifies two things, call within call.
func (m *boxes) unify(x, y any) (bool, api.Errno) {
	x, y = end(x), end(y)
	if x == y {
		return true, api.OK
	}
	if b, is := x.(*box); is {
		return m.bind(b, y)
	}
	if b, is := y.(*box); is {
		return m.bind(b, x)
	}
	p, is := x.(*comp)
	q, also := y.(*comp)
	if !is || !also || p.name != q.name || len(p.args) != len(q.args) {
		return false, api.OK
	}
	for n := range p.args {
		if ok, e := m.unify(p.args[n], q.args[n]); !ok {
			return false, e
		}
	}
	return true, api.OK
}

// box makes a box of a cell.
func (m *boxes) box(at int, has any) *box {
	b := &box{at: at, segs: len(m.points), has: has}
	m.all = append(m.all, b)
	return b
}

// open begins a choice.
func (m *boxes) open() {
	p := point{boxes: map[*box]any{}, notes: slices.Clone(m.notes)}
	for _, b := range m.all {
		p.boxes[b] = b.has
	}
	m.points = append(m.points, p)
}

// back has all be as it was when the last choice began.
func (m *boxes) back() {
	p := m.points[len(m.points)-1]
	for b, has := range p.boxes {
		b.has = has
	}
	m.all = slices.DeleteFunc(m.all, func(b *box) bool { _, old := p.boxes[b]; return !old })
	m.notes = slices.Clone(p.notes)
	m.handles = slices.DeleteFunc(m.handles, func(x handle) bool { return !m.there(x.what) })
}

// there tells whether the box, or the compound, is there.
func (m *boxes) there(x any) bool {
	switch x := x.(type) {
	case *box:
		return slices.Contains(m.all, x)
	case *comp:
		return slices.Contains(m.all, x.args[0])
	}
	return true
}

// shut has what was made since the last choice began be the one's ahead of it.
func (m *boxes) shut() {
	m.points = m.points[:len(m.points)-1]
	for _, b := range m.all {
		b.segs = min(b.segs, len(m.points))
	}
}

// reset makes the boxes unbound that were noted from mark on.
func (m *boxes) reset(mark int) {
	for _, b := range m.notes[mark:] {
		b.has = nil
	}
	m.notes = m.notes[:mark]
}

// term answers the term of a thing; its variables are numbered as they come.
func (m *boxes) term(x any, seen *[]uint64) api.Term {
	switch x := end(x).(type) {
	case int:
		return i(x)
	case string:
		return a(x)
	case *box:
		n := slices.Index(*seen, ref(x.at))
		if n < 0 {
			n = len(*seen)
			*seen = append(*seen, ref(x.at))
		}
		return v(n)
	case *comp:
		var l []api.Term
		for _, b := range x.args {
			l = append(l, m.term(b, seen))
		}
		return c(x.name, l...)
	}
	return api.Term{}
}

// key answers the key of a thing.
func key(x any) api.Key {
	switch x := end(x).(type) {
	case int:
		return api.Key{Kind: api.KeyInt, N: x}
	case string:
		return api.Key{Kind: api.KeyAtom, S: x}
	case *comp:
		return api.Key{Kind: api.KeyComp, S: x.name, N: len(x.args)}
	}
	return api.Key{}
}

// follow answers the thing of a term that was encoded to a word, and has the boxes be of its cells.
func (m *boxes) follow(h *heap.Heap, x api.Term, w uint64, vars map[int]any) any {
	switch x.Kind {
	case api.KindInt:
		return x.N
	case api.KindAtom:
		return x.S
	case api.KindVar:
		if vars[x.N] == nil {
			vars[x.N] = m.box(cell.Number(w), nil)
		}
		return vars[x.N]
	}
	k := &comp{at: cell.Number(w), name: x.S}
	for n, arg := range x.L {
		at := k.at + n + 1
		k.args = append(k.args, m.box(at, m.follow(h, arg, h.Cell(at), vars)))
	}
	return k
}

// size answers how many parts a thing has, as far as these are few.
func size(x any) int {
	k, is := end(x).(*comp)
	if !is {
		return 1
	}
	n := 1
	for _, b := range k.args {
		n += size(b)
		if n > 200 {
			return n
		}
	}
	return n
}

// hold holds a heap against boxes.
func (m *boxes) hold(t *testing.T, h *heap.Heap) {
	t.Helper()
	var notes []uint64
	for _, b := range m.notes {
		notes = append(notes, uint64(b.at))
	}
	if !slices.Equal(h.Trail().Words(), notes) {
		t.Fatal("notes", h.Trail().Words(), notes)
	}
	for _, b := range m.all {
		d := h.Deref(ref(b.at))
		switch x := end(b).(type) {
		case *box:
			if d != ref(x.at) || h.Cell(x.at) != d {
				t.Fatal("cell", b.at, cell.Text(d), "not", x.at)
			}
		case *comp:
			if d != str(x.at) {
				t.Fatal("cell", b.at, cell.Text(d), "not", x.at)
			}
		case int:
			if d != num(x) {
				t.Fatal("cell", b.at, cell.Text(d), "not", x)
			}
		case string:
			if !h.Is(d, x, 0) || cell.Tag(d) != api.TagAtom {
				t.Fatal("cell", b.at, cell.Text(d), "not", x)
			}
		}
		if (h.Cell(b.at) == ref(b.at)) != (b.has == nil) {
			t.Fatal("cell", b.at, cell.Text(h.Cell(b.at)))
		}
	}
	var words, seen []uint64
	var want []string
	for _, x := range m.handles {
		if size(x.what) <= 200 {
			words = append(words, x.w)
			want = append(want, text(m.term(x.what, &seen)))
		}
		k := key(x.what)
		if h.Key(x.w) != k || h.Is(x.w, k.S, k.N) != (k.Kind == api.KeyAtom || k.Kind == api.KeyComp) || h.Is(x.w, k.S, k.N+1) {
			t.Fatal("key", h.Key(x.w), k)
		}
	}
	terms, vars, e := h.Decode(words...)
	if e != api.OK || !slices.Equal(vars, seen) {
		t.Fatal("Decode", e, vars, seen)
	}
	for n, x := range terms {
		if text(x) != want[n] {
			t.Fatal("Decode", text(x), want[n])
		}
	}
}

// pick answers one of the handles.
func (m *boxes) pick(s *source) handle {
	if len(m.handles) == 0 || s.next(9) == 0 {
		return handle{w: num(3), what: 3}
	}
	return m.handles[s.next(len(m.handles))]
}

// random answers a term of so many levels at most.
func (s *source) random(levels int) api.Term {
	switch n := s.next(9); {
	case n < 3:
		return v(s.next(3))
	case n < 4:
		return i(s.next(2))
	case n < 6 || levels == 1:
		return a(string(rune('a' + s.next(2))))
	}
	var l []api.Term
	for range 1 + s.next(3) {
		l = append(l, s.random(levels-1))
	}
	return c(string(rune('f'+s.next(2))), l...)
}

// make makes something new of both.
func (m *boxes) make(t *testing.T, h *heap.Heap, s *source) {
	t.Helper()
	switch s.next(5) {
	case 0:
		if w, e := h.Var(); e == api.OK {
			m.handles = append(m.handles, handle{w, m.box(cell.Number(w), nil)})
		}
	case 1:
		arity := 1 + s.next(3)
		if w, e := h.Struct("f", arity); e == api.OK {
			k := &comp{at: cell.Number(w), name: "f"}
			for n := range arity {
				k.args = append(k.args, m.box(k.at+n+1, nil))
			}
			m.handles = append(m.handles, handle{w, k})
		}
	case 2:
		x := m.pick(s)
		n := 1 + s.next(4)
		k, is := end(x.what).(*comp)
		w, e := h.Arg(x.w, n)
		if (e == api.OK) != (is && n <= len(k.args)) {
			t.Fatal("Arg", e)
		}
		if e == api.OK {
			m.handles = append(m.handles, handle{w, k.args[n-1]})
		}
	default:
		x := s.random(4)
		given, vars := map[int]uint64{}, map[int]any{}
		if y := m.pick(s); s.next(2) == 0 {
			given[0], vars[0] = y.w, y.what
		}
		count := len(given)
		w, e := h.Encode(x, given)
		if e != api.OK {
			return
		}
		what := m.follow(h, x, w, vars)
		if len(given) != len(vars) || len(given) < count {
			t.Fatal("Encode", given)
		}
		for n, y := range vars {
			if b, is := y.(*box); is && b.has == nil && given[n] != ref(b.at) {
				t.Fatal("Encode", given, n, b.at)
			}
		}
		m.handles = append(m.handles, handle{w, what})
	}
}

// bound binds, unifies, and puts something in both.
func (m *boxes) bound(t *testing.T, h *heap.Heap, s *source) {
	t.Helper()
	x, y := m.pick(s), m.pick(s)
	switch s.next(4) {
	case 0:
		b, is := end(x.what).(*box)
		ok, e := h.Bind(x.w, y.w)
		want, f := false, api.ErrArg
		if is {
			want, f = m.bind(b, end(y.what))
		}
		if ok != want || e != f {
			t.Fatal("Bind", ok, e, want, f)
		}
	case 1:
		k, is := end(x.what).(*comp)
		if !is {
			return
		}
		n := s.next(len(k.args))
		b := k.args[n]
		// Put notes nothing: what is put lies in the last segment. Nor does it look for parts.
		if b.segs < len(m.points) || inside(k, y.what) {
			return
		}
		e := h.Put(x.w, n+1, y.w)
		if (e == api.OK) != (b.has == nil) {
			t.Fatal("Put", e)
		}
		if e == api.OK && end(y.what) != b {
			b.has = end(y.what)
		}
	default:
		ok, e := h.Unify(x.w, y.w)
		if want, f := m.unify(x.what, y.what); ok != want || e != f {
			t.Fatal("Unify", ok, e, want, f)
		}
	}
	_, is := end(x.what).(*box)
	_, also := end(x.what).(*comp)
	if h.Reaches(x.w, y.w) != ((is || also) && inside(end(x.what), y.what)) {
		t.Fatal("Reaches", cell.Text(x.w), cell.Text(y.w))
	}
}

// chosen opens, closes and goes back in both.
func (m *boxes) chosen(t *testing.T, h *heap.Heap, s *source) {
	t.Helper()
	switch s.next(6) {
	case 0, 1:
		if mark, e := h.Open(); mark != len(m.notes) || e != api.OK {
			t.Fatal("Open", mark, e)
		}
		m.open()
	case 2, 3:
		if len(m.points) > 0 {
			does(t, h.Back())
			m.back()
		}
	case 4:
		if e := h.Close(); (e == api.OK) != (len(m.points) > 0) {
			t.Fatal("Close", e)
		} else if e == api.OK {
			m.shut()
		}
	case 5:
		if last := len(m.points) - 1; last >= 0 {
			least := len(m.points[last].notes)
			mark := least + s.next(len(m.notes)-least+1)
			does(t, h.Undo(mark))
			m.reset(mark)
		}
	}
	var marks []int
	for _, p := range m.points {
		marks = append(marks, len(p.notes))
	}
	if !slices.Equal(h.Marks(), marks) {
		t.Fatal("Marks", h.Marks(), marks)
	}
}

// reached answers the boxes that are reached from handles, from notes, and from what choices go back to.
func (m *boxes) reached() map[int]bool {
	live := map[int]bool{}
	var reach func(x any)
	reach = func(x any) {
		switch x := x.(type) {
		case *box:
			if !live[x.at] && m.there(x) {
				live[x.at] = true
				reach(x.has)
			}
		case *comp:
			if !live[x.at] {
				live[x.at] = true
				for _, b := range x.args {
					reach(b)
				}
			}
		}
	}
	for _, x := range m.handles {
		reach(x.what)
	}
	for _, b := range m.notes {
		reach(b)
	}
	for _, p := range m.points {
		for b, has := range p.boxes {
			if live[b.at] {
				reach(has)
			}
		}
	}
	return live
}

// collect has some words be needed no more, and gives the cells back that nothing reaches.
func (m *boxes) collect(t *testing.T, h *heap.Heap, s *source) {
	t.Helper()
	for range s.next(4) {
		if n := len(m.handles); n > 0 {
			at := s.next(n)
			m.handles = slices.Delete(m.handles, at, at+1)
		}
	}
	live := m.reached()
	h.Pool().Sweep(func(at int) bool { return live[at] })
	gone := map[*box]bool{}
	for _, b := range m.all {
		gone[b] = !live[b.at]
	}
	m.all = slices.DeleteFunc(m.all, func(b *box) bool { return gone[b] })
	for n := range m.points {
		maps.DeleteFunc(m.points[n].boxes, func(b *box, _ any) bool { return gone[b] })
	}
}

// P20.1 to P20.5: whatever is made, bound, undone and given back.
func TestLikeBoxes(t *testing.T) {
	for seed := range 200 {
		s := source(seed)
		cells, trail := 30+s.next(400), s.next(12)
		h := made(t, cells, trail)
		m := &boxes{limit: trail}
		for range 300 {
			if len(m.handles) > 25 {
				m.collect(t, h, &s)
				m.handles = m.handles[:min(len(m.handles), 20)]
			}
			before := ""
			switch n := s.next(10); {
			case n < 4:
				before = state(h)
				count := len(m.handles)
				m.make(t, h, &s)
				if len(m.handles) == count && state(h) != before {
					t.Fatal("what was not made has changed something")
				}
			case n < 8:
				m.bound(t, h, &s)
			case n < 9:
				m.chosen(t, h, &s)
			default:
				m.collect(t, h, &s)
			}
			m.hold(t, h)
		}
	}
}

// P20.4: notes that are forgotten are as if they had never been made.
func TestForgetLikeNever(t *testing.T) {
	for seed := range 300 {
		s := source(seed)
		one, two := made(t, 100, 100), made(t, 100, 100)
		for range 40 {
			had(t)(one.Var())
			had(t)(two.Var())
		}
		// In the second heap the cells whose notes are to be forgotten are not bound.
		odd := s.next(5)
		kept := func(at int) bool { return at%5 != odd }
		at := 0
		for range 12 {
			if s.next(3) == 0 {
				one.Open()
				two.Open()
			}
			for range s.next(4) {
				if ok, _ := one.Bind(ref(at), num(at)); !ok {
					t.Fatal("Bind")
				}
				if kept(at) {
					two.Bind(ref(at), num(at))
				}
				at++
			}
		}
		before := one.Trail().Len()
		if n := one.Forget(func(_, at int) bool { return kept(at) }); n != before-two.Trail().Len() {
			t.Fatal("Forget", n)
		}
		for {
			if !slices.Equal(one.Marks(), two.Marks()) || !slices.Equal(one.Trail().Words(), two.Trail().Words()) {
				t.Fatal(one.Marks(), two.Marks(), one.Trail().Words(), two.Trail().Words())
			}
			for at := range 40 {
				if kept(at) && one.Cell(at) != two.Cell(at) {
					t.Fatal(at, one.Cell(at), two.Cell(at))
				}
			}
			if len(one.Marks()) == 0 {
				break
			}
			does(t, one.Back())
			does(t, two.Back())
			does(t, one.Close())
			does(t, two.Close())
		}
	}
}
