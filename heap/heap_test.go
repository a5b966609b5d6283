package heap_test

import (
	"maps"
	"slices"
	"strconv"
	"strings"
	"testing"

	"elenchus/api"
	"elenchus/cell"
	"elenchus/heap"
)

// The terms of these tests are laid by hand.

func v(n int) api.Term    { return api.Term{Kind: api.KindVar, N: n} }
func i(n int) api.Term    { return api.Term{Kind: api.KindInt, N: n} }
func a(s string) api.Term { return api.Term{Kind: api.KindAtom, S: s} }
func c(s string, l ...api.Term) api.Term {
	return api.Term{Kind: api.KindComp, S: s, L: l}
}

const (
	most   = 1<<63 - 1
	lowest = -1 << 63
)

// word lays a word by hand.
func word(tag, n int) uint64 { return uint64(n)<<3 | uint64(tag) }

func ref(at int) uint64 { return word(api.TagRef, at) }
func str(at int) uint64 { return word(api.TagStr, at) }
func num(n int) uint64  { return word(api.TagInt, n) }

// many answers a thing n times.
func many[T any](n int, x T) []T {
	l := make([]T, n)
	for j := range l {
		l[j] = x
	}
	return l
}

// nested answers a term so deep.
func nested(depth int, inner api.Term) api.Term {
	for range depth - 1 {
		inner = c("s", inner)
	}
	return inner
}

// text writes a term down.
func text(t api.Term) string {
	switch t.Kind {
	case api.KindVar:
		return "_" + strconv.Itoa(t.N)
	case api.KindInt:
		return strconv.Itoa(t.N)
	case api.KindAtom:
		return t.S
	}
	var args []string
	for _, arg := range t.L {
		args = append(args, text(arg))
	}
	return t.S + "(" + strings.Join(args, ",") + ")"
}

// made answers a heap of limits that may be.
func made(t *testing.T, cells, trail int) *heap.Heap {
	t.Helper()
	h, e := heap.New(cells, trail)
	if h == nil || e != api.OK {
		t.Fatal(cells, trail, e)
	}
	return h
}

// does tests that a call went well.
func does(t *testing.T, e api.Errno) {
	t.Helper()
	if e != api.OK {
		t.Fatal("error", e)
	}
}

// had answers a word that was made.
func had(t *testing.T) func(w uint64, e api.Errno) uint64 {
	return func(w uint64, e api.Errno) uint64 {
		t.Helper()
		if e != api.OK || cell.Tag(w) == 0 {
			t.Fatal("word", w, "error", e)
		}
		return w
	}
}

// laid answers the word of a term: variables by vars.
func laid(t *testing.T, h *heap.Heap, x api.Term, vars map[int]uint64) uint64 {
	t.Helper()
	return had(t)(h.Encode(x, vars))
}

// build answers a compound of these arguments.
func build(t *testing.T, h *heap.Heap, name string, args ...uint64) uint64 {
	t.Helper()
	w := had(t)(h.Struct(name, len(args)))
	for n, x := range args {
		does(t, h.Put(w, n+1, x))
	}
	return w
}

// told answers the texts of words.
func told(t *testing.T, h *heap.Heap, l ...uint64) string {
	t.Helper()
	terms, vars, e := h.Decode(l...)
	if e != api.OK || len(terms) != len(l) {
		t.Fatal("Decode", l, "is", e)
	}
	var texts []string
	for _, x := range terms {
		texts = append(texts, text(x))
	}
	for n, w := range vars {
		if cell.Tag(w) != api.TagRef || h.Cell(cell.Number(w)) != w || slices.Index(vars, w) != n {
			t.Fatal("the variables' words", vars)
		}
	}
	return strings.Join(texts, " ")
}

// tells tests what words' terms are.
func tells(t *testing.T, h *heap.Heap, want string, l ...uint64) {
	t.Helper()
	if got := told(t, h, l...); got != want {
		t.Error("told", got, "not", want)
	}
}

// state is all that a heap tells without words.
func state(h *heap.Heap) string {
	var s strings.Builder
	note := func(l ...int) {
		for _, n := range l {
			s.WriteString(strconv.Itoa(n) + " ")
		}
		s.WriteString("; ")
	}
	p := h.Pool()
	note(p.Top(), p.Left())
	note(p.Starts()...)
	for segment := range p.Starts() {
		for _, r := range p.Runs(segment) {
			note(r.At, r.Len)
		}
	}
	for at := range p.Top() {
		note(int(h.Cell(at)))
	}
	for _, w := range h.Trail().Words() {
		note(int(w))
	}
	note(h.Marks()...)
	note(h.Atoms().Len(), h.Atoms().Slots(), h.Atoms().Made(), h.Functors().Len(), h.Functors().Slots())
	return s.String()
}

// stays tests that a call changes nothing.
func stays(t *testing.T, h *heap.Heap, call func()) {
	t.Helper()
	before := state(h)
	call()
	if after := state(h); after != before {
		t.Errorf("something has changed: %.200s is %.200s", before, after)
	}
}

// wrong answers words that are not right of a heap with the cells 0 (a functor), 1 and 2 (free), and so many atoms.
func wrong(h *heap.Heap) []uint64 {
	slots := h.Atoms().Slots()
	l := []uint64{0, 8, 1 << 63, ref(0), ref(2), ref(3), ref(-1), ref(1 << 40), str(1), str(2), str(3), str(-1), str(1 << 40)}
	l = append(l, word(api.TagAtom, slots), word(api.TagAtom, -1), word(api.TagAtom, 1<<40))
	for _, tag := range []int{api.TagFun, api.TagFree, 7} {
		l = append(l, word(tag, 0), word(tag, 1), word(tag, -1))
	}
	return l
}

// odd answers a heap whose cell 0 has the functor f/1, whose cell 1 is its argument, and whose cell 2 is free.
func odd(t *testing.T) *heap.Heap {
	t.Helper()
	h := made(t, 10, 10)
	had(t)(h.Struct("f", 1))
	had(t)(h.Var())
	does(t, h.Pool().Give(2, 1))
	return h
}

// P20.1: limits.
func TestNew(t *testing.T) {
	for _, limit := range []int{lowest, -1, api.MaxRoom + 1, most} {
		for _, other := range []int{limit, 0, 10} {
			if h, e := heap.New(limit, other); h != nil || e != api.ErrArg {
				t.Error(limit, other, e)
			}
			if h, e := heap.New(other, limit); h != nil || e != api.ErrArg {
				t.Error(other, limit, e)
			}
		}
	}
	for _, limit := range []int{0, 1, 77, api.MaxRoom} {
		h := made(t, limit, api.MaxRoom-limit)
		if h.Pool().Limit() != limit || h.Pool().Top() != 0 || len(h.Pool().Starts()) != 1 || len(h.Marks()) != 0 {
			t.Error(limit, "its cells")
		}
		if h.Trail().Limit() != api.MaxRoom-limit || h.Trail().Len() != 0 || h.Functors().Len() != 0 || h.Atoms().Made() != 0 || h.Cell(0) != 0 {
			t.Error(limit, "its trail, its tables")
		}
	}
}

// P20.1: atoms.
func TestAtom(t *testing.T) {
	h := made(t, 0, 0)
	for n, name := range []string{"[]", "a", "b", "", strings.Repeat("x", api.MaxName)} {
		w := had(t)(h.Atom(name))
		if again := had(t)(h.Atom(name)); again != w || cell.Tag(w) != api.TagAtom {
			t.Error(name, w, again)
		}
		if id, ok := h.Atoms().Find(name); !ok || w != word(api.TagAtom, id) {
			t.Error(name, id, ok)
		}
		if h.Atoms().Made() != n {
			t.Error(name, h.Atoms().Made())
		}
	}
	stays(t, h, func() {
		if w, e := h.Atom(strings.Repeat("x", api.MaxName+1)); w != 0 || e != api.ErrLong {
			t.Error(w, e)
		}
	})
	for n := 0; h.Atoms().Len() < api.MaxAtoms; n++ {
		had(t)(h.Atom("n" + strconv.Itoa(n)))
	}
	stays(t, h, func() {
		if w, e := h.Atom("one more"); w != 0 || e != api.ErrFull {
			t.Error(w, e)
		}
	})
	had(t)(h.Atom("n7"))
}

// P20.1: integers.
func TestInt(t *testing.T) {
	h := made(t, 0, 0)
	for _, n := range []int{0, 1, -1, 7, api.MaxInt, -api.MaxInt} {
		if w, e := h.Int(n); w != num(n) || e != api.OK {
			t.Error(n, w, e)
		}
	}
	for _, n := range []int{api.MaxInt + 1, -api.MaxInt - 1, api.MostCell, api.MostCell + 1, -api.MostCell - 2, most, lowest} {
		if w, e := h.Int(n); w != 0 || e != api.ErrArg {
			t.Error(n, w, e)
		}
	}
}

// P20.1: variables, each a cell that refers to itself.
func TestVar(t *testing.T) {
	h := made(t, 3, 0)
	for at := range 3 {
		if w, e := h.Var(); w != ref(at) || e != api.OK || h.Cell(at) != w || h.Deref(w) != w {
			t.Error(at, w, e)
		}
	}
	stays(t, h, func() {
		if w, e := h.Var(); w != 0 || e != api.ErrFull {
			t.Error(w, e)
		}
	})
	tells(t, h, "_0 _1 _2 _0", ref(1), ref(0), ref(2), ref(1))

	// A cell that was given back is taken again, whatever it was.
	does(t, h.Pool().Give(1, 1))
	if ok, e := h.Bind(ref(0), num(7)); !ok || e != api.OK {
		t.Error(ok, e)
	}
	does(t, h.Pool().Give(0, 1))
	tells(t, h, "_0 _1", had(t)(h.Var()), had(t)(h.Var()))
}

// P20.1: the document's example, and what cells a compound has.
func TestStruct(t *testing.T) {
	h := made(t, 100, 0)
	if w, e := h.Struct("f", 1); w != str(0) || e != api.OK || h.Pool().Top() != 2 {
		t.Error(w, e, h.Pool().Top())
	}
	w := had(t)(h.Struct("g", 2))
	if w != str(2) || h.Pool().Top() != 5 || h.Cell(3) != ref(3) || h.Cell(4) != ref(4) {
		t.Error(w, h.Cell(3), h.Cell(4))
	}
	id, ok := h.Functors().Find("g", 2)
	if !ok || h.Cell(2) != word(api.TagFun, id) {
		t.Error(id, ok, h.Cell(2))
	}
	if had(t)(h.Struct("g", 2)); h.Cell(5) != h.Cell(2) || h.Cell(0) == h.Cell(2) {
		t.Error(h.Cell(5), h.Cell(2), h.Cell(0))
	}
	had(t)(h.Struct(strings.Repeat("x", api.MaxName), api.MaxArity))
	if h.Pool().Top() != 8+17 {
		t.Error(h.Pool().Top())
	}
	tells(t, h, "f(_0) g(_1,_2) g(_3,_4)", str(0), str(2), str(5))
}

// P20.1: compounds that are refused, with nothing changed.
func TestStructRefuses(t *testing.T) {
	h := made(t, 10, 0)
	had(t)(h.Struct("f", 2))
	for _, l := range []struct {
		name  string
		arity int
		want  api.Errno
	}{
		{"g", 0, api.ErrArg}, {"g", -1, api.ErrArg}, {"g", api.MaxArity + 1, api.ErrArg}, {"g", most, api.ErrArg}, {"g", lowest, api.ErrArg},
		{strings.Repeat("x", api.MaxName+1), 0, api.ErrArg}, {strings.Repeat("x", api.MaxName+1), 1, api.ErrLong}, {strings.Repeat("x", api.MaxName+1), 16, api.ErrLong},
		{"g", 7, api.ErrFull}, {"f", 7, api.ErrFull}, {"f", 16, api.ErrFull},
	} {
		stays(t, h, func() {
			if w, e := h.Struct(l.name, l.arity); w != 0 || e != l.want {
				t.Error(l, w, e)
			}
		})
	}
	had(t)(h.Struct("g", 6))
	for _, name := range []string{"f", "k"} {
		stays(t, h, func() {
			if w, e := h.Struct(name, 2); w != 0 || e != api.ErrFull {
				t.Error(name, w, e)
			}
		})
	}

	// Room among cells that were given back is room.
	does(t, h.Pool().Give(4, 2))
	does(t, h.Pool().Give(7, 3))
	stays(t, h, func() {
		if w, e := h.Struct("k", 3); w != 0 || e != api.ErrFull {
			t.Error(w, e)
		}
	})
	if w := had(t)(h.Struct("k", 2)); w != str(7) {
		t.Error(w)
	}
	if w := had(t)(h.Struct("m", 1)); w != str(4) {
		t.Error(w)
	}
	tells(t, h, "k(_0,_1) m(_2)", str(7), str(4))
}

// P20.1: without any room what is refused for other reasons is refused for these.
func TestStructWithoutRoom(t *testing.T) {
	h := made(t, 0, 0)
	long := strings.Repeat("x", api.MaxName)
	for _, l := range []struct {
		name  string
		arity int
		want  api.Errno
	}{
		{"f", 0, api.ErrArg}, {"f", -1, api.ErrArg}, {"f", api.MaxArity + 1, api.ErrArg}, {long + "x", 0, api.ErrArg}, {long + "x", 1, api.ErrLong}, {long + "x", api.MaxArity, api.ErrLong},
		{long, 1, api.ErrFull}, {long, api.MaxArity, api.ErrFull}, {"", 1, api.ErrFull}, {".", 2, api.ErrFull},
	} {
		stays(t, h, func() {
			if w, e := h.Struct(l.name, l.arity); w != 0 || e != l.want {
				t.Error(l, w, e)
			}
		})
	}
}

// P20.1: when there are as many functors as may be, a name is an atom then (5).
func TestFullFunctors(t *testing.T) {
	h := made(t, api.MaxRoom, 0)
	for n := range api.MaxFuns {
		had(t)(h.Struct("f"+strconv.Itoa(n/16), n%16+1))
	}
	top := h.Pool().Top()
	if w, e := h.Struct("new", 1); w != 0 || e != api.ErrFull || h.Pool().Top() != top {
		t.Error(w, e)
	}
	if _, ok := h.Atoms().Find("new"); !ok {
		t.Error("the name is no atom")
	}
	had(t)(h.Struct("f0", 1))
	stays(t, h, func() {
		vars := map[int]uint64{}
		if w, e := h.Encode(c("f0", a("newer"), v(0), c("newest", a("n"))), vars); w != 0 || e != api.ErrFull || len(vars) != 0 {
			t.Error(w, e, vars)
		}
	})
	had(t)(h.Encode(c("f0", a("newer"), v(0), c("f9", a("n"))), nil))
}

// P20.1: arguments are references to their cells.
func TestArg(t *testing.T) {
	h := made(t, 100, 0)
	x := had(t)(h.Var())
	w := had(t)(h.Struct("f", 3))
	for n := 1; n <= 3; n++ {
		if got, e := h.Arg(w, n); got != ref(1+n) || e != api.OK {
			t.Error(n, got, e)
		}
	}
	if ok, e := h.Bind(x, w); !ok || e != api.OK {
		t.Error(ok, e)
	}
	does(t, h.Put(w, 2, num(7)))
	if got, e := h.Arg(x, 2); got != ref(3) || e != api.OK || h.Deref(got) != num(7) {
		t.Error(got, e)
	}
	for _, n := range []int{0, -1, 4, 17, most, lowest} {
		if got, e := h.Arg(w, n); got != 0 || e != api.ErrArg {
			t.Error(n, got, e)
		}
		if e := h.Put(w, n, num(1)); e != api.ErrArg {
			t.Error(n, e)
		}
	}
	for _, w := range []uint64{had(t)(h.Var()), num(1), had(t)(h.Atom("f")), ref(2)} {
		if got, e := h.Arg(w, 1); got != 0 || e != api.ErrArg {
			t.Error(w, got, e)
		}
		if e := h.Put(w, 1, num(1)); e != api.ErrArg {
			t.Error(w, e)
		}
	}
}

// P20.1: what is put stands in the cell, gone through.
func TestPut(t *testing.T) {
	h := made(t, 100, 10)
	x, y := had(t)(h.Var()), had(t)(h.Var())
	w := had(t)(h.Struct("f", 4))
	if ok, _ := h.Bind(x, y); !ok {
		t.Error("Bind")
	}
	does(t, h.Put(w, 1, x))
	if h.Cell(3) != y {
		t.Error("what is put is not gone through", h.Cell(3), y)
	}
	does(t, h.Put(w, 2, had(t)(h.Atom("a"))))
	arg := had(t)(h.Arg(w, 3))
	does(t, h.Put(w, 3, arg))
	if h.Cell(5) != arg {
		t.Error("a variable that is put in its own cell", h.Cell(5))
	}
	tells(t, h, "f(_0,a,_1,_2) _0", w, y)
	inner := build(t, h, "g", num(7))
	does(t, h.Put(w, 3, inner))
	if h.Cell(5) != inner {
		t.Error(h.Cell(5))
	}
	tells(t, h, "f(_0,a,g(7),_1)", w)

	// A cell that is no unbound variable is refused, also one that refers to one.
	stays(t, h, func() {
		for n := 1; n <= 3; n++ {
			for _, x := range []uint64{num(1), y, had(t)(h.Arg(w, n)), had(t)(h.Arg(w, 4))} {
				if e := h.Put(w, n, x); e != api.ErrArg {
					t.Error(n, x, e)
				}
			}
		}
	})
	if h.Trail().Len() != 0 {
		t.Error("it was noted")
	}
}

// P20.1, P20.2, P20.4: words that are not right.
func TestWrongWords(t *testing.T) {
	h := odd(t)
	right := []uint64{num(1), had(t)(h.Atom("a")), ref(1), str(0)}
	for _, x := range wrong(h) {
		stays(t, h, func() {
			if h.Deref(x) != 0 || h.Is(x, "f", 1) || h.Is(x, "[]", 0) || h.Key(x) != (api.Key{}) {
				t.Error(cell.Text(x), "Deref, Is, Key")
			}
			if w, e := h.Arg(x, 1); w != 0 || e != api.ErrArg {
				t.Error(cell.Text(x), "Arg", w, e)
			}
			if e := h.Put(x, 1, num(1)); e != api.ErrArg {
				t.Error(cell.Text(x), "Put", e)
			}
			if e := h.Put(str(0), 1, x); e != api.ErrArg {
				t.Error(cell.Text(x), "Put", e)
			}
			for _, w := range append(right, x) {
				if h.Reaches(x, w) || h.Reaches(w, x) {
					t.Error(cell.Text(x), cell.Text(w), "Reaches")
				}
				for _, both := range [][2]uint64{{x, w}, {w, x}} {
					if ok, e := h.Bind(both[0], both[1]); ok || e != api.ErrArg {
						t.Error(cell.Text(both[0]), cell.Text(both[1]), "Bind", ok, e)
					}
					if ok, e := h.Unify(both[0], both[1]); ok || e != api.ErrArg {
						t.Error(cell.Text(both[0]), cell.Text(both[1]), "Unify", ok, e)
					}
					if terms, words, e := h.Decode(both[0], both[1]); len(terms) != 0 || len(words) != 0 || e != api.ErrArg {
						t.Error(cell.Text(both[0]), cell.Text(both[1]), "Decode", terms, words, e)
					}
				}
			}
		})
	}
	for _, x := range right {
		if h.Deref(x) != x {
			t.Error(cell.Text(x), cell.Text(h.Deref(x)))
		}
	}
}

// P20.2: from cell to cell.
func TestDeref(t *testing.T) {
	h := made(t, 100, 0)
	var chain []uint64
	for range 6 {
		chain = append(chain, had(t)(h.Var()))
	}
	for n := range 5 {
		if ok, e := h.Bind(chain[n], chain[n+1]); !ok || e != api.OK {
			t.Error(n, ok, e)
		}
		for _, w := range chain[:n+2] {
			if h.Deref(w) != chain[n+1] {
				t.Error(n, w, h.Deref(w))
			}
		}
	}
	w := had(t)(h.Struct("f", 1))
	if ok, e := h.Bind(chain[0], w); !ok || e != api.OK {
		t.Error(ok, e)
	}
	for _, x := range append(chain, w) {
		if h.Deref(x) != w {
			t.Error(x, h.Deref(x))
		}
	}
}

// P20.2, P20.4: names, arities and keys.
func TestIsAndKey(t *testing.T) {
	h := made(t, 100, 0)
	x := had(t)(h.Var())
	for _, l := range []struct {
		w     uint64
		name  string
		arity int
		key   api.Key
	}{
		{had(t)(h.Atom("a")), "a", 0, api.Key{Kind: api.KeyAtom, S: "a"}},
		{had(t)(h.Atom("")), "", 0, api.Key{Kind: api.KeyAtom}},
		{had(t)(h.Atom("[]")), "[]", 0, api.Key{Kind: api.KeyAtom, S: "[]"}},
		{had(t)(h.Struct("a", 1)), "a", 1, api.Key{Kind: api.KeyComp, S: "a", N: 1}},
		{had(t)(h.Struct("a", 2)), "a", 2, api.Key{Kind: api.KeyComp, S: "a", N: 2}},
		{had(t)(h.Struct("", 16)), "", 16, api.Key{Kind: api.KeyComp, N: 16}},
		{num(0), "no", 0, api.Key{Kind: api.KeyInt}},
		{num(-7), "no", 0, api.Key{Kind: api.KeyInt, N: -7}},
		{x, "no", 0, api.Key{}},
		{had(t)(h.Struct(".", 2)), ".", 2, api.Key{Kind: api.KeyComp, S: ".", N: 2}},
	} {
		bound := had(t)(h.Var())
		if _, e := h.Bind(bound, l.w); e != api.OK {
			t.Error(e)
		}
		for _, w := range []uint64{l.w, bound} {
			if h.Key(w) != l.key {
				t.Error(l, h.Key(w))
			}
			for _, name := range []string{"a", "", "[]", ".", "b", "0"} {
				for _, arity := range []int{-1, 0, 1, 2, 3, 16, 17} {
					if h.Is(w, name, arity) != (name == l.name && arity == l.arity) {
						t.Error(l, name, arity)
					}
				}
			}
		}
	}
	stays(t, h, func() { h.Is(x, "new", 0); h.Is(x, "new", 3) })
}

// P20.2: what has a variable, or a compound, as a part.
func TestReaches(t *testing.T) {
	h := made(t, 1000, 0)
	vars := map[int]uint64{}
	w := laid(t, h, c("f", v(0), c("g", v(1), a("a")), i(7)), vars)
	x, y, z := vars[0], vars[1], had(t)(h.Var())
	g := had(t)(h.Arg(w, 2))
	for _, l := range []struct {
		part, whole uint64
		want        bool
	}{
		{x, w, true}, {y, w, true}, {z, w, false}, {x, x, true}, {x, y, false}, {x, g, false}, {y, g, true},
		{w, w, true}, {g, w, true}, {h.Deref(g), w, true}, {w, g, false}, {g, h.Deref(g), true},
		{had(t)(h.Atom("a")), w, false}, {num(7), w, false}, {num(7), num(7), false}, {had(t)(h.Atom("a")), had(t)(h.Atom("a")), false},
		{x, num(7), false}, {x, had(t)(h.Atom("a")), false}, {w, x, false},
		{laid(t, h, c("g", v(1), a("a")), vars), w, false},
	} {
		if h.Reaches(l.part, l.whole) != l.want {
			t.Error(cell.Text(l.part), cell.Text(l.whole), "is not", l.want)
		}
	}
	if ok, _ := h.Bind(y, build(t, h, "k", z)); !ok {
		t.Error("Bind")
	}
	if !h.Reaches(z, w) || !h.Reaches(y, w) || h.Reaches(x, y) || !h.Reaches(y, g) || !h.Reaches(z, y) || h.Reaches(y, z) {
		t.Error("by way of what is bound")
	}
	if ok, _ := h.Bind(z, x); !ok {
		t.Error("Bind")
	}
	if !h.Reaches(z, x) || !h.Reaches(x, g) || !h.Reaches(x, y) {
		t.Error("variables that are bound to each other")
	}
}

// P20.2: what is bound.
func TestBind(t *testing.T) {
	h := made(t, 1000, 0)
	vars := map[int]uint64{}
	w := laid(t, h, c("f", v(0), v(1)), vars)
	x, y, z := vars[0], vars[1], had(t)(h.Var())
	bind := func(p, q uint64, want bool) {
		t.Helper()
		if ok, e := h.Bind(p, q); ok != want || e != api.OK {
			t.Error(cell.Text(p), cell.Text(q), ok, e)
		}
	}
	around := build(t, h, "k", w)
	stays(t, h, func() {
		bind(x, x, true)
		bind(x, w, false)
		bind(y, around, false)
	})
	bind(x, z, true)
	if h.Cell(cell.Number(x)) != z || h.Cell(cell.Number(z)) != z {
		t.Error("the first one refers to the second one")
	}
	stays(t, h, func() {
		bind(x, z, true)
		bind(z, x, true)
		bind(z, w, false)
	})
	bind(y, x, true)
	if h.Cell(cell.Number(y)) != z {
		t.Error("to what was gone through")
	}
	for _, p := range []uint64{num(1), had(t)(h.Atom("a")), w} {
		for _, q := range []uint64{num(1), x, w} {
			if ok, e := h.Bind(p, q); ok || e != api.ErrArg {
				t.Error(p, q, ok, e)
			}
		}
	}
	bind(x, num(7), true)
	tells(t, h, "f(7,7) 7 7 7", w, x, y, z)
	if ok, e := h.Bind(x, num(7)); ok || e != api.ErrArg {
		t.Error("what is bound", ok, e)
	}
}

// P20.2, P20.3: just those bindings are noted that are of cells ahead of the last segment.
func TestNotes(t *testing.T) {
	h := made(t, 1000, 1)
	var l []uint64
	bind := func(n int, want bool, e api.Errno, notes ...uint64) {
		t.Helper()
		if ok, f := h.Bind(l[n], num(n)); ok != want || e != f {
			t.Error(n, ok, f)
		}
		if !slices.Equal(h.Trail().Words(), notes) {
			t.Error(n, h.Trail().Words())
		}
	}
	more := func() {
		t.Helper()
		for range 3 {
			l = append(l, had(t)(h.Var()))
		}
	}
	more()
	bind(0, true, api.OK)
	if mark, e := h.Open(); mark != 0 || e != api.OK {
		t.Error(mark, e)
	}
	more()
	bind(3, true, api.OK)
	if ok, e := h.Bind(l[2], l[2]); !ok || e != api.OK || h.Trail().Len() != 0 {
		t.Error(ok, e)
	}
	bind(1, true, api.OK, 1)
	stays(t, h, func() { bind(2, false, api.ErrFull, 1) })
	bind(4, true, api.OK, 1)
	if mark, e := h.Open(); mark != 1 || e != api.OK {
		t.Error(mark, e)
	}
	stays(t, h, func() {
		bind(5, false, api.ErrFull, 1)
		bind(2, false, api.ErrFull, 1)
		// What is not to be bound is not to be noted.
		if ok, e := h.Bind(l[5], l[5]); !ok || e != api.OK {
			t.Error(ok, e)
		}
	})
	does(t, h.Close())
	bind(5, true, api.OK, 1)
	stays(t, h, func() { bind(2, false, api.ErrFull, 1) })
	does(t, h.Close())
	bind(2, true, api.OK, 1)
}

// P20.2: a full trail is told behind what is not bound.
func TestFullTrail(t *testing.T) {
	h := made(t, 1000, 0)
	vars := map[int]uint64{}
	w := laid(t, h, c("f", v(0), v(1)), vars)
	if _, e := h.Open(); e != api.OK {
		t.Error(e)
	}
	stays(t, h, func() {
		if ok, e := h.Bind(vars[0], w); ok || e != api.OK {
			t.Error(ok, e)
		}
		if ok, e := h.Bind(vars[0], vars[1]); ok || e != api.ErrFull {
			t.Error(ok, e)
		}
		if ok, e := h.Unify(w, vars[0]); ok || e != api.OK {
			t.Error(ok, e)
		}
		if ok, e := h.Unify(num(7), vars[0]); ok || e != api.ErrFull {
			t.Error(ok, e)
		}
	})
	// What was bound stays bound.
	x := laid(t, h, c("f", v(2), i(7)), nil)
	if ok, e := h.Unify(x, w); ok || e != api.ErrFull {
		t.Error(ok, e)
	}
	tells(t, h, "f(_0,7) f(_0,_1)", x, w)
}

// P20.2: what is unified, and what is bound to what.
func TestUnify(t *testing.T) {
	for _, l := range []struct {
		a, b api.Term
		want string // what both are told as then, and whether they were unified
	}{
		{a("a"), a("a"), "a a yes"},
		{a("a"), a("b"), "a b no"},
		{i(7), i(7), "7 7 yes"},
		{i(7), i(-7), "7 -7 no"},
		{a("7"), i(7), "7 7 no"},
		{v(0), v(0), "_0 _0 yes"},
		{v(0), v(1), "_0 _0 yes"},
		{v(0), a("a"), "a a yes"},
		{i(7), v(0), "7 7 yes"},
		{v(0), c("f", v(0)), "_0 f(_0) no"},
		{c("f", v(0)), v(0), "f(_0) _0 no"},
		{c("f", v(0)), c("f", c("f", v(0))), "f(_0) f(f(_0)) no"},
		{c("f", v(0), a("b")), c("f", a("a"), v(1)), "f(a,b) f(a,b) yes"},
		{c("f", v(0), a("b"), v(2)), c("f", a("a"), a("c"), a("d")), "f(a,b,_0) f(a,c,d) no"},
		{c("f", v(0)), c("g", a("a")), "f(_0) g(a) no"},
		{c("f", v(0)), c("f", a("a"), v(1)), "f(_0) f(a,_1) no"},
		{c("f", v(0)), a("f"), "f(_0) f no"},
		{a("f"), c("f", v(0)), "f f(_0) no"},
		{i(1), c("f", v(0)), "1 f(_0) no"},
		{c("f", v(0), v(0)), c("f", a("a"), a("b")), "f(a,a) f(a,b) no"},
		{c("f", v(0), v(0)), c("f", v(1), a("b")), "f(b,b) f(b,b) yes"},
		{c("f", v(0), v(1)), c("f", v(1), c("g", v(0))), "f(_0,_0) f(_0,g(_0)) no"},
		{c("f", v(0), v(1)), c("f", c("g", v(1)), a("a")), "f(g(a),a) f(g(a),a) yes"},
		{c("f", c("g", v(0)), v(0)), c("f", v(1), c("h", v(1))), "f(g(_0),_0) f(g(_0),h(g(_0))) no"},
		{c("f", v(0), c("g", v(1)), v(1)), c("f", c("k", v(2)), v(3), v(2)), "f(k(_0),g(_0),_0) f(k(_0),g(_0),_0) yes"},
	} {
		h := made(t, 1000, 0)
		vars := map[int]uint64{}
		first, second := laid(t, h, l.a, vars), laid(t, h, l.b, vars)
		ok, e := h.Unify(first, second)
		got := told(t, h, first, second) + " no"
		if ok {
			got = told(t, h, first, second) + " yes"
		}
		if got != l.want || e != api.OK {
			t.Error(text(l.a), text(l.b), "is", got, e, "not", l.want)
		}
	}
}

// P20.2: a variable of the first term is bound to the second one's, else the other way round.
func TestWhichIsBound(t *testing.T) {
	h := made(t, 100, 0)
	x, y, z := had(t)(h.Var()), had(t)(h.Var()), had(t)(h.Var())
	h.Unify(x, y)
	if h.Deref(x) != y || h.Cell(cell.Number(x)) != y {
		t.Error("x to y")
	}
	h.Unify(z, x)
	if h.Cell(cell.Number(z)) != y {
		t.Error("z to y")
	}
	h.Unify(num(7), z)
	if h.Cell(cell.Number(y)) != num(7) || h.Cell(cell.Number(z)) != y {
		t.Error("y to 7")
	}
}

// P20.2: a compound that stands in several places is held against each of the others.
func TestUnifyShared(t *testing.T) {
	for _, turned := range []bool{false, true} {
		h := made(t, 100, 0)
		x := had(t)(h.Var())
		shared := build(t, h, "g", x)
		one := build(t, h, "f", shared, shared)
		two := laid(t, h, c("f", c("g", i(1)), c("g", i(2))), nil)
		if turned {
			one, two = two, one
		}
		if ok, e := h.Unify(one, two); ok || e != api.OK || h.Deref(x) != num(1) {
			t.Error(ok, e, h.Deref(x))
		}
	}
}

// P20.2: terms that share much, and lists that are long, are unified in few steps.
func TestUnifyLarge(t *testing.T) {
	h := made(t, api.MaxRoom, 0)
	var tops [2]uint64
	for side := range tops {
		w := had(t)(h.Var())
		for range 2000 {
			w = build(t, h, "f", w, w)
		}
		tops[side] = w
	}
	if h.Reaches(tops[0], tops[1]) {
		t.Error("one in the other")
	}
	if ok, e := h.Unify(tops[0], tops[1]); !ok || e != api.OK {
		t.Error(ok, e)
	}
	if _, _, e := h.Decode(tops[0]); e != api.ErrMany {
		t.Error(e)
	}
	list := func(last uint64) uint64 {
		w := last
		for range 60000 {
			w = build(t, h, ".", num(1), w)
		}
		return w
	}
	end := had(t)(h.Var())
	one, two := list(end), list(had(t)(h.Atom("[]")))
	if ok, e := h.Unify(one, two); !ok || e != api.OK || !h.Is(end, "[]", 0) {
		t.Error(ok, e)
	}
	if h.Reaches(had(t)(h.Var()), one) || !h.Reaches(two, two) {
		t.Error("Reaches")
	}
}

// R1: what Put makes lie in itself is gone through, and all calls end.
func TestEndless(t *testing.T) {
	h := made(t, 1000, 10)
	ring := func(long int, last string) uint64 {
		first := had(t)(h.Struct(last, 1))
		w := first
		for range long - 1 {
			w = build(t, h, "s", w)
		}
		does(t, h.Put(first, 1, w))
		return w
	}
	two, three, other := ring(2, "s"), ring(3, "s"), ring(2, "z")
	if ok, e := h.Unify(two, three); !ok || e != api.OK {
		t.Error(ok, e)
	}
	if ok, e := h.Unify(two, other); ok || e != api.OK {
		t.Error(ok, e)
	}
	x := had(t)(h.Var())
	if h.Reaches(x, two) || !h.Reaches(two, two) || h.Reaches(two, three) {
		t.Error("Reaches")
	}
	if ok, e := h.Bind(x, two); !ok || e != api.OK {
		t.Error(ok, e)
	}
	if l, words, e := h.Decode(x); len(l) != 0 || len(words) != 0 || e != api.ErrMany {
		t.Error(l, words, e)
	}
	if h.Key(x) != (api.Key{Kind: api.KeyComp, S: "s", N: 1}) {
		t.Error(h.Key(x))
	}
	twin := had(t)(h.Struct("f", 2))
	does(t, h.Put(twin, 1, twin))
	does(t, h.Put(twin, 2, twin))
	if _, _, e := h.Decode(twin); e != api.ErrMany {
		t.Error(e)
	}
}

// P20.3: what was noted is unbound again.
func TestUndo(t *testing.T) {
	h := made(t, 100, 10)
	var l []uint64
	for range 4 {
		l = append(l, had(t)(h.Var()))
	}
	if _, e := h.Open(); e != api.OK {
		t.Error(e)
	}
	young := had(t)(h.Var())
	for n, w := range l {
		if ok, _ := h.Bind(w, num(n)); !ok {
			t.Error(n)
		}
	}
	if ok, _ := h.Bind(young, num(9)); !ok {
		t.Error("young")
	}
	for _, mark := range []int{-1, 5, most, lowest} {
		stays(t, h, func() {
			if e := h.Undo(mark); e != api.ErrArg {
				t.Error(mark, e)
			}
		})
	}
	stays(t, h, func() { does(t, h.Undo(4)) })
	does(t, h.Undo(2))
	tells(t, h, "0 1 _0 _1 9", append(l, young)...)
	if !slices.Equal(h.Trail().Words(), []uint64{0, 1}) || h.Pool().Top() != 5 {
		t.Error(h.Trail().Words())
	}
	if ok, _ := h.Bind(l[3], young); !ok || !slices.Equal(h.Trail().Words(), []uint64{0, 1, 3}) {
		t.Error(h.Trail().Words())
	}
	does(t, h.Undo(0))
	tells(t, h, "_0 _1 _2 _3 9", append(l, young)...)
	if h.Trail().Len() != 0 || !slices.Equal(h.Marks(), []int{0}) {
		t.Error(h.Trail().Words(), h.Marks())
	}
}

// P20.3, P20.5: choices within choices.
func TestBack(t *testing.T) {
	h := made(t, 100, 10)
	x, y, z := had(t)(h.Var()), had(t)(h.Var()), had(t)(h.Var())
	bind := func(p, q uint64) {
		t.Helper()
		if ok, e := h.Bind(p, q); !ok || e != api.OK {
			t.Error(p, q, ok, e)
		}
	}
	h.Open()
	inner := had(t)(h.Var())
	bind(x, num(1))
	h.Open()
	w := build(t, h, "f", inner)
	bind(y, w)
	bind(inner, num(2))
	tells(t, h, "1 f(2) _0", x, y, z)
	if !slices.Equal(h.Marks(), []int{0, 1}) {
		t.Error(h.Marks())
	}
	for range 2 {
		does(t, h.Back())
		tells(t, h, "1 _0 _1 _2", x, y, z, inner)
		if h.Deref(w) != 0 || h.Pool().Top() != 4 || h.Trail().Len() != 1 || !slices.Equal(h.Marks(), []int{0, 1}) {
			t.Error(h.Deref(w), h.Pool().Top(), h.Trail().Len(), h.Marks())
		}
	}
	bind(z, had(t)(h.Var()))
	does(t, h.Close())
	if h.Trail().Len() != 2 || !slices.Equal(h.Marks(), []int{0}) || h.Pool().Top() != 5 {
		t.Error(h.Trail().Len(), h.Marks())
	}
	does(t, h.Back())
	tells(t, h, "_0 _1 _2", x, y, z)
	if h.Deref(inner) != 0 || h.Pool().Top() != 3 || h.Trail().Len() != 0 {
		t.Error(h.Deref(inner), h.Pool().Top(), h.Trail().Len())
	}
	does(t, h.Close())
	if e := h.Close(); e != api.ErrNone {
		t.Error(e)
	}
	h.Open()
	bind(x, num(1))
	does(t, h.Close())
	if h.Trail().Len() != 1 {
		t.Error("a note behind Close", h.Trail().Words())
	}
	does(t, h.Back())
	if h.Deref(x) != 0 || h.Pool().Top() != 0 || len(h.Pool().Starts()) != 1 || h.Trail().Len() != 0 {
		t.Error("the first segment")
	}
}

// P20.3: what was noted since the last segment was opened is undone, also if less is noted than then.
func TestBackBehindUndo(t *testing.T) {
	h := made(t, 100, 10)
	var l []uint64
	for range 5 {
		l = append(l, had(t)(h.Var()))
	}
	h.Open()
	h.Bind(l[0], num(0))
	h.Open()
	h.Bind(l[1], num(1))
	h.Open()
	h.Bind(l[2], num(2))
	does(t, h.Undo(0))
	h.Bind(l[3], num(3))
	if !slices.Equal(h.Marks(), []int{0, 1, 2}) {
		t.Error(h.Marks())
	}
	h.Open()
	h.Bind(l[4], num(4))
	does(t, h.Back())
	tells(t, h, "_0 _1 _2 3 _3", l...)
	does(t, h.Close())
	does(t, h.Back())
	tells(t, h, "_0 _1 _2 _3 _4", l...)
	h.Bind(l[3], num(3))
	does(t, h.Close())
	does(t, h.Back())
	tells(t, h, "_0 _1 _2 _3 _4", l...)
}

// P20.3: so many segments, and no more.
func TestManySegments(t *testing.T) {
	h := made(t, api.MaxRoom, 10)
	for n := 1; n < api.MaxSegs; n++ {
		if mark, e := h.Open(); mark != 0 || e != api.OK {
			t.Fatal(n, mark, e)
		}
	}
	stays(t, h, func() {
		if mark, e := h.Open(); mark != 0 || e != api.ErrFull {
			t.Error(mark, e)
		}
	})
	if len(h.Marks()) != api.MaxSegs-1 {
		t.Error(len(h.Marks()))
	}
	for n := 1; n < api.MaxSegs; n++ {
		does(t, h.Close())
	}
	stays(t, h, func() {
		if e := h.Close(); e != api.ErrNone {
			t.Error(e)
		}
	})
}

// P20.4: terms to words.
func TestEncode(t *testing.T) {
	h := made(t, 1000, 0)
	vars := map[int]uint64{}
	for _, l := range []struct {
		term  api.Term
		cells int
	}{
		{i(7), 0}, {a("a"), 0}, {v(7), 1}, {v(7), 0}, {v(3), 1}, {c("f", v(3), v(7)), 3},
		{c("f", v(1), c("g", v(1), a("a"), i(-1)), v(2)), 4 + 4 + 2},
	} {
		top := h.Pool().Top()
		w := laid(t, h, l.term, vars)
		if h.Pool().Top()-top != l.cells {
			t.Error(text(l.term), "takes", h.Pool().Top()-top)
		}
		terms, words, e := h.Decode(w)
		if e != api.OK || len(terms) != 1 {
			t.Fatal(text(l.term), e)
		}
		var seen []int
		if got := renumbered(terms[0], &seen); text(got) != text(renumbered(l.term, new([]int))) {
			t.Error(text(l.term), text(got))
		}
		seen = nil
		renumbered(l.term, &seen)
		for n, number := range seen {
			if words[n] != vars[number] {
				t.Error(text(l.term), number, words, vars)
			}
		}
	}
	if len(vars) != 4 || h.Deref(vars[7]) != vars[7] || cell.Tag(vars[7]) != api.TagRef {
		t.Error(vars)
	}
	if w := laid(t, h, i(7), nil); w != num(7) {
		t.Error(w)
	}
	if w := laid(t, h, a("a"), nil); w != had(t)(h.Atom("a")) {
		t.Error(w)
	}
	tells(t, h, "f(_0,_0,_1)", laid(t, h, c("f", v(0), v(0), v(5)), nil))
}

// renumbered answers a term whose variables are numbered as they come.
func renumbered(x api.Term, seen *[]int) api.Term {
	if x.Kind == api.KindVar {
		n := slices.Index(*seen, x.N)
		if n < 0 {
			n = len(*seen)
			*seen = append(*seen, x.N)
		}
		return v(n)
	}
	var l []api.Term
	for _, arg := range x.L {
		l = append(l, renumbered(arg, seen))
	}
	x.L = l
	return x
}

// P20.4: variables are what vars tells, if that is right; each new one is a cell of its own.
func TestEncodeVars(t *testing.T) {
	h := odd(t)
	g := build(t, h, "g", num(7))
	given := map[int]uint64{0: num(7), 1: g, 2: ref(1), 3: had(t)(h.Atom("a"))}
	tells(t, h, "f(7,g(7),_0,a)", laid(t, h, c("f", v(0), v(1), v(2), v(3)), given))
	if len(given) != 4 || given[0] != num(7) || given[1] != g || given[2] != ref(1) {
		t.Error(given)
	}
	for n, w := range []uint64{num(7), g, ref(1)} {
		if got := laid(t, h, v(n), given); got != w {
			t.Error(n, got, w)
		}
	}
	for _, x := range wrong(odd(t)) {
		h := odd(t)
		vars := map[int]uint64{0: x, 4: num(4)}
		w := laid(t, h, c("f", v(0), v(4), v(0)), vars)
		if cell.Tag(vars[0]) != api.TagRef || h.Cell(cell.Number(vars[0])) != vars[0] || vars[0] == had(t)(h.Arg(w, 1)) || vars[0] == had(t)(h.Arg(w, 3)) || len(vars) != 2 {
			t.Error(cell.Text(x), vars)
		}
		tells(t, h, "f(_0,4,_0) _0", w, vars[0])
	}

	// A word that is not right becomes so by no cell that the call itself takes, nor by a name.
	h = made(t, 100, 0)
	vars := map[int]uint64{0: ref(0), 1: ref(1), 2: ref(2), 3: str(4), 4: str(3), 5: word(api.TagAtom, h.Atoms().Slots()), 6: ref(4), 7: ref(5), 8: ref(7)}
	x := laid(t, h, c("f", v(0), v(1), v(2), v(3), v(4), v(5), v(6), v(7), v(8), a("new"), v(0)), vars)
	tells(t, h, "f(_0,_1,_2,_3,_4,_5,_6,_7,_8,new,_0)", x)
	if h.Pool().Top() != 9+12 || len(vars) != 9 {
		t.Error(h.Pool().Top(), vars)
	}
}

// P20.4: what is not encoded, with nothing changed.
func TestEncodeRefuses(t *testing.T) {
	h := made(t, 100000, 0)
	shared := a("a")
	for range 100 {
		shared = c("f", shared, shared)
	}
	for _, l := range []struct {
		term api.Term
		want api.Errno
	}{
		{api.Term{}, api.ErrTerm}, {c("f"), api.ErrTerm}, {c("f", api.Term{Kind: 5}), api.ErrTerm}, {i(api.MaxInt + 1), api.ErrTerm}, {v(-1), api.ErrTerm},
		{a(strings.Repeat("x", api.MaxName+1)), api.ErrTerm}, {c("f", many(17, a("a"))...), api.ErrTerm},
		{nested(api.MaxDepth+1, a("a")), api.ErrDepth}, {c("f", many(16, c("f", many(16, c("f", many(16, a("a"))...))...))...), api.ErrMany}, {shared, api.ErrMany},
	} {
		vars := map[int]uint64{7: num(7)}
		stays(t, h, func() {
			if w, e := h.Encode(c("new", v(0), l.term), vars); w != 0 || e != l.want || len(vars) != 1 {
				t.Error(l.want, w, e, vars)
			}
			if w, e := h.Encode(l.term, nil); w != 0 || e != l.want {
				t.Error(l.want, w, e)
			}
		})
	}
	for _, x := range []api.Term{nested(api.MaxDepth, v(0)), c("f", many(15, c("f", many(16, c("f", many(16, v(3))...))...))...)} {
		w := laid(t, h, x, nil)
		terms, words, e := h.Decode(w)
		if e != api.OK || text(terms[0]) != text(renumbered(x, new([]int))) || len(words) != 1 {
			t.Error(e)
		}
	}
}

// P20.4: a term is encoded as a whole, or not at all.
func TestEncodeFull(t *testing.T) {
	x := c("f", v(0), c("g", v(1), v(0)), c("h", a("b")))
	for cells := range 16 {
		h := made(t, cells, 0)
		had(t)(h.Atom("b"))
		vars := map[int]uint64{}
		before := state(h)
		w, e := h.Encode(x, vars)
		if cells < 11 {
			if w != 0 || e != api.ErrFull || len(vars) != 0 || state(h) != before {
				t.Error(cells, w, e, vars)
			}
			continue
		}
		if e != api.OK || len(vars) != 2 || h.Pool().Top() != 11 {
			t.Error(cells, e, vars)
		}
	}
	// Rows of free cells are room, each for whatever is not longer.
	for _, l := range []struct {
		rows []int
		top  int // room behind them
		want api.Errno
	}{
		{[]int{1, 1, 4, 3, 2}, 0, api.OK}, {[]int{11}, 0, api.OK}, {[]int{2, 4, 3, 2}, 0, api.OK}, {[]int{10}, 0, api.ErrFull}, {[]int{2, 9}, 0, api.OK},
		{[]int{1, 1, 4, 3}, 1, api.ErrFull}, {[]int{1, 1, 4, 3}, 2, api.OK}, {[]int{1, 1, 3, 2}, 4, api.OK}, {[]int{1, 1, 3, 2}, 3, api.ErrFull},
		{[]int{1, 1, 1, 1, 1, 1, 1, 1}, 8, api.ErrFull}, {[]int{1, 1, 1, 1, 1, 1, 1, 1}, 9, api.OK}, {nil, 11, api.OK}, {nil, 10, api.ErrFull},
		{[]int{3, 3, 3, 3}, 0, api.ErrFull}, {[]int{3, 3, 3, 3}, 4, api.OK}, {[]int{5, 5, 5}, 0, api.OK}, {[]int{1, 1, 1, 4, 2, 3}, 0, api.OK},
	} {
		size := l.top
		for _, n := range l.rows {
			size += n + 1
		}
		h := made(t, size, 0)
		had(t)(h.Atom("b"))
		if size > l.top {
			if _, e := h.Pool().Take(size - l.top); e != api.OK {
				t.Fatal(e)
			}
		}
		at := 0
		for _, n := range l.rows {
			does(t, h.Pool().Give(at, n))
			at += n + 1
		}
		vars := map[int]uint64{}
		before := state(h)
		w, e := h.Encode(x, vars)
		if e != l.want || e != api.OK && (w != 0 || len(vars) != 0 || state(h) != before) {
			t.Error(l, w, e, vars)
		}
		if e == api.OK {
			tells(t, h, "f(_0,g(_1,_0),h(b)) _0 _1", w, vars[0], vars[1])
		}
	}
}

// P20.4: room in a segment that is not the last one is none.
func TestEncodeInTheLastSegment(t *testing.T) {
	h := made(t, 10, 0)
	had(t)(h.Struct("f", 7))
	does(t, h.Pool().Give(2, 6))
	h.Open()
	stays(t, h, func() {
		if w, e := h.Encode(c("f", v(0)), nil); w != 0 || e != api.ErrFull {
			t.Error(w, e)
		}
		if w, e := h.Struct("new", 2); w != 0 || e != api.ErrFull {
			t.Error(w, e)
		}
	})
	had(t)(h.Struct("new", 1))
	does(t, h.Back())
	does(t, h.Close())
	if w := had(t)(h.Encode(c("f", v(0)), nil)); cell.Number(w) >= 8 {
		t.Error(w)
	}
}

// P20.4: names are there for a whole term, or nothing is done.
func TestEncodeNames(t *testing.T) {
	h := made(t, 1000, 0)
	for n := 0; h.Atoms().Len() < api.MaxAtoms-2; n++ {
		had(t)(h.Atom("n" + strconv.Itoa(n)))
	}
	vars := map[int]uint64{}
	stays(t, h, func() {
		for _, x := range []api.Term{c("f", a("x"), a("y"), v(0)), c("n1", a("x"), v(0), c("y", c("f", i(1))))} {
			if w, e := h.Encode(x, vars); w != 0 || e != api.ErrFull || len(vars) != 0 {
				t.Error(w, e, vars)
			}
		}
	})
	tells(t, h, "x(y(x,n0),x,_0)", had(t)(h.Encode(c("x", c("y", a("x"), a("n0")), a("x"), v(0)), vars)))
	if h.Atoms().Len() != api.MaxAtoms {
		t.Error(h.Atoms().Len())
	}
	stays(t, h, func() {
		if w, e := h.Encode(a("z"), vars); w != 0 || e != api.ErrFull {
			t.Error(w, e)
		}
	})
	had(t)(h.Encode(c("n0", a("n1")), vars))

	// Functors, likewise.
	h = made(t, api.MaxRoom, 0)
	for n := range api.MaxFuns - 2 {
		had(t)(h.Struct("f"+strconv.Itoa(n/16), n%16+1))
	}
	stays(t, h, func() {
		if w, e := h.Encode(c("g", c("g", i(1)), c("g", i(1), i(1), i(1))), vars); w != 0 || e != api.ErrFull {
			t.Error(w, e)
		}
	})
	had(t)(h.Encode(c("g", c("g", i(1), i(1)), c("g", i(1), i(1))), vars))
	if h.Functors().Len() != api.MaxFuns-1 {
		t.Error(h.Functors().Len())
	}
	had(t)(h.Encode(c("g", c("g", i(1)), c("g", i(1), i(1))), vars))
}

// P20.4: words to terms, any number at once.
func TestDecode(t *testing.T) {
	h := made(t, 1000, 0)
	if l, words, e := h.Decode(); len(l) != 0 || len(words) != 0 || e != api.OK {
		t.Error(l, words, e)
	}
	vars := map[int]uint64{}
	w := laid(t, h, c("f", v(0), c("g", v(1)), v(0)), vars)
	z := had(t)(h.Var())
	l, words, e := h.Decode(z, num(7), w, vars[1], z)
	if e != api.OK || !slices.Equal(words, []uint64{z, vars[0], vars[1]}) {
		t.Error(words, e)
	}
	if len(l) != 5 || text(l[0]) != "_0" || text(l[1]) != "7" || text(l[2]) != "f(_1,g(_2),_1)" || text(l[3]) != "_2" || text(l[4]) != "_0" {
		t.Error(l)
	}
	tells(t, h, "a  [] -7 g(_0) _0", had(t)(h.Atom("a")), had(t)(h.Atom("")), had(t)(h.Atom("[]")), num(-7), had(t)(h.Arg(w, 2)), had(t)(h.Arg(had(t)(h.Arg(w, 2)), 1)))
	if ok, _ := h.Bind(vars[0], z); !ok {
		t.Error("Bind")
	}
	if _, words, _ := h.Decode(w); !slices.Equal(words, []uint64{z, vars[1]}) {
		t.Error(words)
	}
}

// P20.4: terms that are too large, or too deep, told one by one; words that are not right ahead of all.
func TestDecodeRefuses(t *testing.T) {
	h := made(t, api.MaxRoom, 0)
	deep := func(depth int) uint64 {
		w := had(t)(h.Atom("a"))
		for range depth - 1 {
			w = build(t, h, "s", w)
		}
		return w
	}
	wide := func(parts int) uint64 {
		w := had(t)(h.Atom("[]"))
		for n := 1; n < parts; n += 16 {
			l := many(16, num(7))
			l[15] = w
			w = build(t, h, "f", l...)
		}
		return w
	}
	for _, l := range []struct {
		words []uint64
		want  api.Errno
	}{
		{[]uint64{deep(200)}, api.OK}, {[]uint64{deep(201)}, api.ErrDepth}, {[]uint64{deep(4096)}, api.ErrDepth}, {[]uint64{deep(4097)}, api.ErrMany}, {[]uint64{deep(50000)}, api.ErrMany},
		{[]uint64{wide(3200 - 15)}, api.OK}, {[]uint64{deep(200), deep(200), deep(199)}, api.OK},
		{[]uint64{deep(201), deep(5000)}, api.ErrDepth}, {[]uint64{deep(5000), deep(201)}, api.ErrMany}, {[]uint64{deep(3), deep(201), num(7)}, api.ErrDepth},
		{[]uint64{deep(201), 0}, api.ErrArg}, {[]uint64{deep(5000), ref(api.MaxRoom)}, api.ErrArg},
	} {
		stays(t, h, func() {
			terms, words, e := h.Decode(l.words...)
			if e != l.want || e != api.OK && (len(terms) != 0 || len(words) != 0) || e == api.OK && len(terms) != len(l.words) {
				t.Error(l.want, e, len(terms), len(words))
			}
		})
	}
	// 1 + 15 * (1 + 16 + 256) parts are as many as there may be.
	sixteen := func(x uint64) uint64 { return build(t, h, "f", many(16, x)...) }
	inner := sixteen(sixteen(num(7)))
	args := many(15, inner)
	if terms, _, e := h.Decode(build(t, h, "g", args...)); e != api.OK || len(terms) != 1 {
		t.Error(e)
	}
	args[3] = build(t, h, "s", inner)
	if _, _, e := h.Decode(build(t, h, "g", args...)); e != api.ErrMany {
		t.Error(e)
	}
}

// R3: what is answered is new memory.
func TestOwnMemory(t *testing.T) {
	h := made(t, 1000, 10)
	vars := map[int]uint64{}
	x := c("f", v(0), c("g", v(1)))
	w := laid(t, h, x, vars)
	x.L[0], x.L[1].L[0] = i(7), i(7)
	one, words, _ := h.Decode(w, w)
	one[0].L[1].L[0] = i(8)
	one[0].L[0] = i(8)
	if text(one[1]) != "f(_0,g(_1))" {
		t.Error("answers share memory", text(one[1]))
	}
	words[0] = 0
	tells(t, h, "f(_0,g(_1))", w)
	h.Open()
	h.Open()
	marks := h.Marks()
	for n := range marks[:cap(marks)] {
		marks[:cap(marks)][n] = 9
	}
	if !slices.Equal(h.Marks(), []int{0, 0}) {
		t.Error(h.Marks())
	}
	l := []uint64{w, vars[0]}
	h.Decode(l...)
	if l[0] != w || l[1] != vars[0] {
		t.Error("what was handed in has changed")
	}
	before := maps.Clone(vars)
	laid(t, h, c("k", v(1), v(0)), vars)
	if !maps.Equal(before, vars) {
		t.Error(vars)
	}
}

// P20.4: cells, and those that are made loose.
func TestCellAndLoose(t *testing.T) {
	h := odd(t)
	for _, at := range []int{-1, 2, 3, 10, most, lowest, 1 << 40} {
		stays(t, h, func() {
			if h.Cell(at) != 0 || h.Loose(at) != api.ErrArg {
				t.Error(at, h.Cell(at))
			}
		})
	}
	does(t, h.Put(str(0), 1, num(7)))
	if h.Cell(1) != num(7) {
		t.Error(h.Cell(1))
	}
	does(t, h.Loose(1))
	if h.Cell(1) != ref(1) || h.Trail().Len() != 0 {
		t.Error(h.Cell(1))
	}
	does(t, h.Loose(1))
	does(t, h.Loose(0))
	if h.Cell(0) != ref(0) || h.Deref(str(0)) != 0 || h.Deref(ref(0)) != ref(0) {
		t.Error(h.Cell(0))
	}
	// A cell that was taken of the pool itself.
	h.Pool().Take(1)
	at, e := h.Pool().Take(3)
	does(t, e)
	for n := range 3 {
		if h.Cell(at+n) != 0 || h.Deref(ref(at+n)) != 0 {
			t.Error(at+n, h.Cell(at+n))
		}
	}
	does(t, h.Loose(at+2))
	if h.Cell(at+2) != ref(at+2) {
		t.Error(h.Cell(at + 2))
	}
}

// P20.4: what is forgotten is no more in the trail, and marks go by what is left.
func TestForget(t *testing.T) {
	h := made(t, 100, 20)
	var l []uint64
	for range 9 {
		l = append(l, had(t)(h.Var()))
	}
	bind := func(n int) {
		t.Helper()
		if ok, e := h.Bind(l[n], num(n)); !ok || e != api.OK {
			t.Error(n, ok, e)
		}
	}
	h.Open()
	bind(8)
	bind(7)
	h.Open()
	h.Open()
	bind(6)
	bind(5)
	bind(4)
	h.Open()
	bind(3)
	if !slices.Equal(h.Marks(), []int{0, 2, 2, 5}) {
		t.Error(h.Marks())
	}
	var asked [][2]int
	if n := h.Forget(func(i, at int) bool { asked = append(asked, [2]int{i, at}); return true }); n != 0 {
		t.Error(n)
	}
	if !slices.Equal(asked, [][2]int{{0, 8}, {1, 7}, {2, 6}, {3, 5}, {4, 4}, {5, 3}}) || !slices.Equal(h.Marks(), []int{0, 2, 2, 5}) {
		t.Error(asked, h.Marks())
	}
	if n := h.Forget(func(i, at int) bool { return i != 1 && at != 6 && i != 4 }); n != 3 {
		t.Error(n)
	}
	if !slices.Equal(h.Trail().Words(), []uint64{8, 5, 3}) || !slices.Equal(h.Marks(), []int{0, 1, 1, 2}) {
		t.Error(h.Trail().Words(), h.Marks())
	}
	does(t, h.Back())
	tells(t, h, "_0 4 5 6 7 8", l[3:]...)
	does(t, h.Close())
	does(t, h.Back())
	tells(t, h, "_0 4 _1 6 7 8", l[3:]...)
	if !slices.Equal(h.Trail().Words(), []uint64{8}) {
		t.Error(h.Trail().Words())
	}
	if n := h.Forget(func(i, at int) bool { return false }); n != 1 || h.Trail().Len() != 0 || !slices.Equal(h.Marks(), []int{0, 0, 0}) {
		t.Error(n, h.Marks())
	}
	does(t, h.Back())
	tells(t, h, "_0 4 _1 6 7 8", l[3:]...)
	if h.Forget(func(int, int) bool { t.Error("asked"); return false }) != 0 {
		t.Error("nothing is noted")
	}
}

// R1: a function that panics, or is none, leaves all as it is; one that calls the heap, as it may not, makes nothing panic.
func TestForgetPanics(t *testing.T) {
	laid := func() *heap.Heap {
		h := made(t, 100, 20)
		for range 6 {
			had(t)(h.Var())
		}
		for at := range 6 {
			if at%2 == 0 {
				h.Open()
			}
			h.Bind(ref(at), num(at))
		}
		return h
	}
	for _, keep := range []func(i, at int) bool{nil, func(i, at int) bool {
		if i == 4 {
			panic("no")
		}
		return i == 2
	}} {
		h := laid()
		stays(t, h, func() {
			if n := h.Forget(keep); n != 0 {
				t.Error(n)
			}
		})
	}
	for _, call := range []func(h *heap.Heap){
		func(h *heap.Heap) { h.Back(); h.Close() },
		func(h *heap.Heap) { h.Undo(0); h.Open() },
		func(h *heap.Heap) { h.Forget(func(i, at int) bool { return i > 2 }) },
	} {
		h := laid()
		h.Forget(func(i, at int) bool { call(h); return i%2 == 0 })
		for range 8 {
			h.Undo(1)
			h.Back()
			h.Marks()
			h.Close()
		}
	}
}

// R1: what refers to a cell that was given back is no term any more.
func TestGivenBack(t *testing.T) {
	for _, turned := range []bool{false, true} {
		h := made(t, 100, 10)
		vars := map[int]uint64{}
		w := laid(t, h, c("f", v(0), i(7)), vars)
		twin := laid(t, h, c("f", v(1), i(7)), vars)
		other := laid(t, h, c("f", v(2), v(3)), vars)
		does(t, h.Pool().Give(cell.Number(vars[0]), 1))
		does(t, h.Pool().Give(cell.Number(vars[1]), 1))
		arg := had(t)(h.Arg(w, 1))
		if h.Deref(w) != w || h.Deref(arg) != 0 || h.Key(arg) != (api.Key{}) || h.Reaches(vars[2], w) {
			t.Error(h.Deref(w), h.Deref(arg))
		}
		if l, words, e := h.Decode(num(1), w); len(l) != 0 || len(words) != 0 || e != api.ErrArg {
			t.Error(l, words, e)
		}
		for _, both := range [][2]uint64{{w, other}, {w, twin}} {
			if turned {
				both[0], both[1] = both[1], both[0]
			}
			if ok, e := h.Unify(both[0], both[1]); ok || e != api.OK {
				t.Error(ok, e)
			}
		}
		tells(t, h, "f(_0,_1)", other)
	}
}

// R1: whatever was given back to the pool, or swept from the tables, calls end.
func TestMeddling(t *testing.T) {
	for n := range 60 {
		h := made(t, 60, 30)
		vars := map[int]uint64{}
		w := laid(t, h, c("f", v(0), c("g", v(1), a("x")), c("h", i(7), v(0)), a("y")), vars)
		x := laid(t, h, c("f", v(2), v(3), v(4), a("y")), vars)
		if n%3 == 0 {
			h.Open()
		}
		h.Bind(vars[0], laid(t, h, c("k", v(5)), vars))
		switch n % 5 {
		case 0:
			h.Atoms().Sweep()
		case 1:
			h.Functors().Sweep()
		case 2:
			h.Pool().Open()
			h.Pool().Take(3)
		case 3:
			h.Trail().Push(1 << 63)
			h.Trail().Push(most)
			h.Trail().Push(59)
		case 4:
			h.Pool().Back()
		}
		h.Pool().Give(n%(h.Pool().Top()+1), 1+n%2)
		for at := range 60 {
			for _, y := range []uint64{ref(at), str(at), w, x} {
				h.Deref(y)
				h.Key(y)
				h.Is(y, "f", 4)
				h.Arg(y, 2)
				h.Decode(y, w)
				for _, z := range []uint64{w, x, vars[1]} {
					h.Reaches(y, z)
					h.Unify(y, z)
					h.Bind(y, z)
				}
			}
		}
		h.Put(w, 1, x)
		laid(t, made(t, 60, 0), c("f", v(0), v(1)), vars)
		h.Encode(c("f", v(0), v(5), v(7)), vars)
		h.Undo(0)
		h.Forget(func(i, at int) bool { return at%2 == 0 })
		for range 3 {
			h.Back()
			h.Close()
		}
	}
}

// P20.4: of a heap that New did not make, whatever is asked.
func TestClosed(t *testing.T) {
	for _, h := range []*heap.Heap{nil, new(heap.Heap)} {
		vars := map[int]uint64{}
		for _, call := range []func() (uint64, api.Errno){
			func() (uint64, api.Errno) { return h.Atom("a") }, func() (uint64, api.Errno) { return h.Atom(strings.Repeat("a", 99)) },
			func() (uint64, api.Errno) { return h.Int(1) }, func() (uint64, api.Errno) { return h.Int(most) }, h.Var,
			func() (uint64, api.Errno) { return h.Struct("f", 1) }, func() (uint64, api.Errno) { return h.Struct("f", 0) },
			func() (uint64, api.Errno) { return h.Arg(str(0), 1) },
			func() (uint64, api.Errno) { return h.Encode(v(0), vars) }, func() (uint64, api.Errno) { return h.Encode(api.Term{}, vars) },
		} {
			if w, e := call(); w != 0 || e != api.ErrClosed {
				t.Error(w, e)
			}
		}
		for _, e := range []api.Errno{h.Put(str(0), 1, num(1)), h.Undo(0), h.Undo(-1), h.Back(), h.Close(), h.Loose(0)} {
			if e != api.ErrClosed {
				t.Error(e)
			}
		}
		if ok, e := h.Bind(num(1), num(1)); ok || e != api.ErrClosed {
			t.Error(ok, e)
		}
		if ok, e := h.Unify(num(1), num(1)); ok || e != api.ErrClosed {
			t.Error(ok, e)
		}
		if mark, e := h.Open(); mark != 0 || e != api.ErrClosed {
			t.Error(mark, e)
		}
		if l, words, e := h.Decode(num(1)); len(l) != 0 || len(words) != 0 || e != api.ErrClosed {
			t.Error(l, words, e)
		}
		if l, words, e := h.Decode(); len(l) != 0 || len(words) != 0 || e != api.ErrClosed {
			t.Error(l, words, e)
		}
		if h.Deref(ref(0)) != 0 || h.Is(ref(0), "", 0) || h.Key(ref(0)) != (api.Key{}) || h.Is(word(api.TagAtom, 0), "[]", 0) || h.Reaches(str(0), str(0)) {
			t.Error("Deref, Is, Key, Reaches")
		}
		if h.Deref(num(1)) != 0 || h.Is(num(1), "", 0) || h.Reaches(ref(0), ref(0)) || h.Key(num(1)) != (api.Key{}) || h.Cell(0) != 0 {
			t.Error("Deref, Is, Reaches, Key, Cell")
		}
		if h.Pool() != nil || h.Trail() != nil || h.Atoms() != nil || h.Functors() != nil || len(h.Marks()) != 0 || len(vars) != 0 {
			t.Error("Pool, Trail, Atoms, Functors, Marks")
		}
		if h.Forget(func(int, int) bool { t.Error("asked"); return false }) != 0 || h.Forget(nil) != 0 {
			t.Error("Forget")
		}
	}
}

// R4: two heaps have nothing to do with each other.
func TestHeapsApart(t *testing.T) {
	one, two := made(t, 10, 10), made(t, 10, 10)
	had(t)(one.Struct("f", 3))
	had(t)(one.Atom("a"))
	one.Open()
	if two.Pool().Top() != 0 || two.Atoms().Made() != 0 || two.Functors().Len() != 0 || len(two.Marks()) != 0 {
		t.Error(state(two))
	}
}
