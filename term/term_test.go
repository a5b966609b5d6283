package term

import (
	"reflect"
	"slices"
	"strconv"
	"strings"
	"testing"

	"elenchus/api"
)

// text writes any value of api.Term, a term or none, so that just those that are the same have the same text; it is told apart from the functions that are tested.
func text(t api.Term) string {
	var b strings.Builder
	b.WriteString(strconv.Itoa(t.Kind) + ":" + strconv.Itoa(t.N) + ":" + strconv.Quote(t.S))
	for i, arg := range t.L {
		b.WriteString([]string{"(", ","}[min(i, 1)] + text(arg))
	}
	if len(t.L) > 0 {
		b.WriteString(")")
	}
	return b.String()
}

// is checks that the answer is that term.
func is(t *testing.T, what string, got, want api.Term) {
	t.Helper()
	if g, w := text(got), text(want); g != w {
		t.Errorf("%s: %.200s, not %.200s", what, g, w)
	}
}

// places are all places of terms that the lists of a term have, their spare room among them.
func places(l []api.Term) []*api.Term {
	var all []*api.Term
	spare := l[:cap(l)]
	for i := range spare {
		all = append(all, &spare[i])
	}
	for _, x := range l {
		all = append(all, places(x.L)...)
	}
	return all
}

// apart checks that the answers share no memory with one another, nor with what was handed in.
func apart(t *testing.T, what string, given []api.Term, answers ...api.Term) {
	t.Helper()
	seen := map[*api.Term]int{}
	for _, p := range places(given) {
		seen[p] = 1
	}
	for _, a := range answers {
		for _, p := range places(a.L) {
			if seen[p] != 0 {
				t.Errorf("%s: an answer shares memory", what)
				return
			}
			seen[p] = 2
		}
	}
}

// source is a row of numbers that look like random ones.
type source uint64

func (s *source) next(n int) int {
	*s = *s*6364136223846793005 + 1442695040888963407
	return int(*s >> 33 % source(n))
}

// term answers some term of at most so many levels.
func (s *source) term(levels int) api.Term {
	switch k := s.next(6); {
	case k == 0:
		return Int(s.next(3) - 1)
	case k == 1:
		return Atom([]string{"a", "b", "[]", "", "."}[s.next(5)])
	case k < 4 || levels <= 1:
		return Var(s.next(4) * s.next(3))
	}
	args := make([]api.Term, 1+s.next(3))
	for i := range args {
		args[i] = s.term(levels - 1)
	}
	return compound([]string{"f", "g", "."}[s.next(3)], args...)
}

func f(l ...api.Term) api.Term { return compound("f", l...) }

// cons is a list's item ahead of the rest.
func cons(item, rest api.Term) api.Term { return compound(".", item, rest) }

var empty = api.Term{Kind: api.KindAtom, S: "[]"}

// P6.1: what is made has just its fields, whether it may be or not.
func TestSimple(t *testing.T) {
	for _, n := range []int{0, 1, 7, -1, api.MaxVar - 1, api.MaxVar, api.MaxInt, -api.MaxInt, api.MaxInt + 1, -api.MaxInt - 1, most, lowest} {
		if x := Var(n); !reflect.DeepEqual(x, api.Term{Kind: api.KindVar, N: n}) {
			t.Error("Var", n, x)
		}
		if x := Int(n); !reflect.DeepEqual(x, api.Term{Kind: api.KindInt, N: n}) {
			t.Error("Int", n, x)
		}
	}
	for _, s := range []string{"", "a", "[]", "\x00\xff", long, tooLong, strings.Repeat("x", 100000)} {
		if x := Atom(s); !reflect.DeepEqual(x, api.Term{Kind: api.KindAtom, S: s}) {
			t.Errorf("Atom(%.20q): %v", s, x)
		}
		if x := Comp(s); !reflect.DeepEqual(x, api.Term{Kind: api.KindAtom, S: s}) {
			t.Errorf("Comp(%.20q): %v", s, x)
		}
		if x := Comp(s, []api.Term{}...); !reflect.DeepEqual(x, api.Term{Kind: api.KindAtom, S: s}) {
			t.Errorf("Comp(%.20q, none): %v", s, x)
		}
	}
}

// P6.1: compounds of any number of any arguments.
func TestComp(t *testing.T) {
	is(t, "f(X1, 2)", Comp("f", Var(1), Int(2)), api.Term{Kind: 4, S: "f", L: []api.Term{{Kind: 1, N: 1}, {Kind: 2, N: 2}}})
	is(t, "f(f(a))", Comp("f", Comp("f", Atom("a"))), f(f(atom)))
	is(t, "no name", Comp("", atom), compound("", atom))
	for _, n := range []int{1, 2, 15, 16, 17, 1000} {
		want := api.OK
		if n > api.MaxArity {
			want = api.ErrTerm
		}
		x := Comp(long, args(n)...)
		is(t, "many arguments", x, compound(long, args(n)...))
		if e := Check(x); e != want {
			t.Errorf("%d arguments: %d", n, e)
		}
	}
	if e := Check(Comp(tooLong, atom)); e != api.ErrTerm {
		t.Error(e)
	}
	for name, x := range bad {
		is(t, name, Comp("f", atom, x), f(atom, x))
	}
	is(t, "too deep", Comp("f", nested(200, atom)), f(nested(200, atom)))
	is(t, "too many", Comp("f", wide(5000), doubled(12, atom)), f(wide(5000), doubled(12, atom)))
}

// P6.1: lists with and without items, with any tail.
func TestList(t *testing.T) {
	one, two := Int(1), Int(2)
	for _, c := range []struct {
		items      []api.Term
		tail, want api.Term
	}{
		{nil, empty, empty},
		{[]api.Term{}, empty, empty},
		{nil, Var(3), Var(3)},
		{nil, f(atom), f(atom)},
		{nil, cons(one, empty), cons(one, empty)},
		{nil, api.Term{}, api.Term{}},
		{[]api.Term{one}, empty, cons(one, empty)},
		{[]api.Term{one, two}, empty, cons(one, cons(two, empty))},
		{[]api.Term{one, two}, Var(0), cons(one, cons(two, Var(0)))},
		{[]api.Term{one}, cons(two, empty), cons(one, cons(two, empty))},
		{[]api.Term{cons(one, empty), empty}, atom, cons(cons(one, empty), cons(empty, atom))},
		{[]api.Term{{}, one}, bad["var -1"], cons(api.Term{}, cons(one, bad["var -1"]))},
	} {
		given := append(slices.Clone(c.items), c.tail)
		before := text(f(given...))
		x := List(c.items, c.tail)
		is(t, "List", x, c.want)
		apart(t, "List", given, x)
		if text(f(given...)) != before {
			t.Error("what was handed in has changed:", before)
		}
	}
}

// P6.1, P6.3: a list may be as long as a term may be deep; longer ones are made too.
func TestLongLists(t *testing.T) {
	for n, want := range map[int]api.Errno{198: api.OK, 199: api.OK, 200: api.ErrDepth, 70000: api.ErrDepth} {
		x := List(args(n), empty)
		if e := Check(x); e != want {
			t.Errorf("%d items: %d", n, e)
		}
		items, tail := Items(x)
		if want == api.OK {
			is(t, "items", f(items...), f(args(n)...))
			is(t, "tail", tail, empty)
		} else if len(items) != 0 || !zero(tail) {
			t.Errorf("%d items: %d, %v", n, len(items), tail)
		}
		for i := range n {
			if x.S != "." || len(x.L) != 2 || x.L[0].N != i {
				t.Fatalf("item %d: %v", i, x.L[0])
			}
			x = x.L[1]
		}
		is(t, "the end", x, empty)
	}
}

// R3: what Comp and List answer is memory of its own, though what they are given shares its lists; later changes are not seen.
func TestMadeApart(t *testing.T) {
	inner := []api.Term{atom, Int(1), {Kind: api.KindAtom, L: []api.Term{}}}
	l := make([]api.Term, 2, 9)
	l[0], l[1] = f(inner...), f(inner...)
	behind := l[:9]
	behind[2] = Int(77)
	before := text(f(l...))
	x, y := Comp("f", l...), List(l, l[0])
	apart(t, "Comp, List", append(l, inner...), x, y)
	inner[0], l[1], behind[2] = Int(5), Int(6), Int(7)
	if text(x) != before {
		t.Error("Comp has kept what it was given:", text(x))
	}
	is(t, "List", y, cons(x.L[0], cons(x.L[1], x.L[0])))
	x.L[0].L[0] = Int(8)
	x.L[1].L = append(x.L[1].L, Int(9))
	if behind[2].N != 7 || inner[0].N != 5 || y.L[0].L[0].S != "a" {
		t.Error("an answer is shared")
	}
}

// R1: what has no end, or more parts than could ever be answered, is made into nothing.
func TestTooMuchToMake(t *testing.T) {
	for _, x := range []api.Term{endless(), endless(atom, atom), doubled(60, atom), doubled(5000, atom)} {
		for _, y := range []api.Term{Comp("f", atom, x), List([]api.Term{x}, atom), List(nil, x)} {
			if !zero(y) {
				t.Error("something was made")
			}
		}
	}
}

// P6.2: Same.
func TestSame(t *testing.T) {
	var all []api.Term
	for _, x := range good {
		all = append(all, x)
	}
	s := source(1)
	for range 300 {
		all = append(all, s.term(3))
	}
	all = append(all, Int(7), Var(7), Atom("7"), f(Int(0)), compound("f", Int(0), Int(0)), compound("g", Int(0)), f(Var(0)), compound("", atom), Atom(""))
	same := 0
	texts := make([]string, len(all))
	for i, x := range all {
		texts[i] = text(x)
	}
	for i, x := range all {
		for j, y := range all {
			if Same(x, y) != (texts[i] == texts[j]) {
				t.Errorf("Same(%.100s, %.100s) = %v", texts[i], texts[j], Same(x, y))
			}
			if i != j && Same(x, y) {
				same++
			}
		}
	}
	if same < 1000 {
		t.Error("so few were the same:", same)
	}
	if !Same(f(api.Term{Kind: api.KindAtom, S: "a", L: []api.Term{}}), f(atom)) {
		t.Error("an empty list is another thing than none")
	}
	if Same(wide(4096), wide(4095)) || Same(nested(199, atom), nested(199, Atom("b"))) {
		t.Error("large ones")
	}
}

// P6.2: the variables' numbers, in the order in which one comes to them.
func TestVars(t *testing.T) {
	for _, c := range []struct {
		t    api.Term
		want []int
	}{
		{atom, nil},
		{Int(3), nil},
		{f(atom, Int(3)), nil},
		{Var(5), []int{5}},
		{Var(0), []int{0}},
		{f(Var(7), Var(3), Var(7)), []int{7, 3}},
		{f(f(f(Var(2)), Var(1)), Var(0), f(Var(1), Var(9))), []int{2, 1, 0, 9}},
		{f(Var(api.MaxVar-1), Int(4), Var(0), Var(api.MaxVar-1)), []int{api.MaxVar - 1, 0}},
	} {
		if l := Vars(c.t); !slices.Equal(l, c.want) {
			t.Errorf("Vars(%s) = %v, not %v", text(c.t), l, c.want)
		}
	}
	x := f(Var(7), Var(3))
	l, k := Vars(x), Vars(x)
	l[0], l = 99, append(l, 98)
	if !slices.Equal(k, []int{7, 3}) || !slices.Equal(Vars(x), []int{7, 3}) || len(l) != 3 {
		t.Error("two answers share memory")
	}
	// As many as a term has room for.
	var want []int
	many := wide(4096)
	var lay func(l []api.Term)
	lay = func(l []api.Term) {
		for i := range l {
			if len(l[i].L) == 0 {
				n := 10000 - len(want)
				l[i] = Var(n)
				want = append(want, n)
			}
			lay(l[i].L)
		}
	}
	lay(many.L)
	if !slices.Equal(Vars(many), want) || len(want) < 3000 {
		t.Error("many variables", len(want))
	}
}

// P6.2: the chapter's example, and others.
func TestRename(t *testing.T) {
	for _, c := range []struct {
		t, want api.Term
		n       int
	}{
		{f(Var(7), Var(3), Var(7)), f(Var(0), Var(1), Var(0)), 2},
		{Var(9), Var(0), 1},
		{atom, atom, 0},
		{Int(-5), Int(-5), 0},
		{f(Int(7), atom), f(Int(7), atom), 0},
		{f(Var(1), Var(0)), f(Var(0), Var(1)), 2},
		{f(f(Var(2), Var(api.MaxVar-1)), f(Var(0), Var(2)), f(Int(2))), f(f(Var(0), Var(1)), f(Var(2), Var(0)), f(Int(2))), 3},
	} {
		before := text(c.t)
		x, n := Rename(c.t)
		is(t, "Rename", x, c.want)
		if n != c.n || text(c.t) != before {
			t.Errorf("Rename(%s): %d, not %d; now %s", before, n, c.n, text(c.t))
		}
		apart(t, "Rename", []api.Term{c.t}, x)
	}
}

// P6.2: Replace.
func TestReplace(t *testing.T) {
	b := Atom("b")
	for i, c := range []struct {
		t    api.Term
		with []api.Term
		want api.Term
	}{
		{atom, nil, atom},
		{f(Var(0), Var(1)), nil, f(Var(0), Var(1))},
		{f(Var(0), Var(1)), []api.Term{}, f(Var(0), Var(1))},
		{f(Var(0), Var(1), Var(2)), []api.Term{atom, b}, f(atom, b, Var(2))},
		{f(Var(1), Var(0), Var(1)), []api.Term{atom, b}, f(b, atom, b)},
		{Var(0), []api.Term{f(Int(1))}, f(Int(1))},
		{Var(1), []api.Term{f(Int(1))}, Var(1)},
		{Var(api.MaxVar - 1), []api.Term{atom}, Var(api.MaxVar - 1)},
		// All at once, not one behind the other.
		{f(Var(0), Var(1)), []api.Term{Var(1), Var(0)}, f(Var(1), Var(0))},
		{f(Var(0), f(Var(1))), []api.Term{f(Var(0), Var(1)), Var(7)}, f(f(Var(0), Var(1)), f(Var(7)))},
		// Integers, and what is a list's tail.
		{f(Int(0), Int(1)), []api.Term{atom, b}, f(Int(0), Int(1))},
		{cons(Var(0), Var(1)), []api.Term{atom, empty}, cons(atom, empty)},
	} {
		given := append(slices.Clone(c.with), c.t)
		before := text(f(given...))
		x := Replace(c.t, c.with)
		is(t, "Replace "+strconv.Itoa(i), x, c.want)
		apart(t, "Replace", given, x)
		if text(f(given...)) != before {
			t.Error("what was handed in has changed:", before)
		}
	}
}

// P6.2: one of with that may not be, though no variable has its number.
func TestReplaceWithBad(t *testing.T) {
	for name, x := range bad {
		for _, y := range []api.Term{atom, Var(0), Var(5), f(Var(0), Var(1))} {
			for _, with := range [][]api.Term{{x}, {atom, x}, {x, atom}, {atom, atom, atom, f(x)}} {
				if z := Replace(y, with); !zero(z) {
					t.Errorf("%s: %s", name, text(z))
				}
			}
		}
	}
}

// P6.2: replacing by what makes the term too deep, or too large.
func TestReplaceLimits(t *testing.T) {
	for i, c := range []struct {
		t    api.Term
		with []api.Term
		may  bool
	}{
		{nested(100, Var(0)), []api.Term{nested(99, atom)}, true},
		{nested(100, Var(0)), []api.Term{nested(100, atom)}, false},
		{nested(199, Var(0)), []api.Term{atom}, true},
		{nested(199, Var(0)), []api.Term{f(atom)}, false},
		{nested(199, Var(1)), []api.Term{f(atom)}, true},
		{Var(0), []api.Term{nested(199, atom)}, true},
		{Var(0), []api.Term{wide(4096)}, true},
		{f(Var(0)), []api.Term{wide(4096)}, false},
		{f(Var(0)), []api.Term{wide(4095)}, true},
		{f(Var(0), Var(0)), []api.Term{wide(2047)}, true},
		{f(Var(0), Var(0)), []api.Term{wide(2048)}, false},
		{f(Var(0), Var(1)), []api.Term{wide(2047), wide(2048)}, true},
		{f(Var(0), Var(1)), []api.Term{wide(2048), wide(2048)}, false},
		{f(Var(0), Var(1), atom), []api.Term{wide(2047), wide(2048)}, false},
		{f(Var(0), wide(4000)), []api.Term{wide(95)}, true},
		{f(Var(0), wide(4000)), []api.Term{wide(96)}, false},
		{f(wide(4000), Var(0)), []api.Term{wide(96), wide(4096)}, false},
		{f(wide(4000), Var(0)), []api.Term{atom, wide(4096)}, true},
		{doubled(11, Var(0)), []api.Term{atom}, true},
		{doubled(11, Var(0)), []api.Term{f(atom)}, false},
		{doubled(11, Var(0)), []api.Term{wide(4096)}, false},
		{f(Var(0), nested(199-1, Var(1))), []api.Term{wide(4096), f(atom)}, false},
	} {
		x := Replace(c.t, c.with)
		if !c.may {
			if !zero(x) {
				t.Errorf("%d: %.100s", i, text(x))
			}
			continue
		}
		is(t, "Replace "+strconv.Itoa(i), x, plain(c.t, c.with))
		if e := Check(x); e != api.OK {
			t.Errorf("%d: %d", i, e)
		}
	}
}

// plain replaces variables as the chapter tells, without limits.
func plain(t api.Term, with []api.Term) api.Term {
	if t.Kind == api.KindVar && t.N < len(with) {
		return with[t.N]
	}
	l := make([]api.Term, len(t.L))
	for i, x := range t.L {
		l[i] = plain(x, with)
	}
	t.L = l
	return t
}

// P6.2: how many parts, how deep.
func TestSizeDepth(t *testing.T) {
	for _, c := range []struct {
		t           api.Term
		size, depth int
	}{
		{atom, 1, 1},
		{Var(3), 1, 1},
		{Int(9), 1, 1},
		{f(atom), 2, 2},
		{f(args(16)...), 17, 2},
		{f(f(atom), atom, f(f(f(atom)), atom)), 9, 5},
		{f(f(f(f(atom)), atom), atom, f(atom)), 9, 5},
		{cons(atom, cons(atom, empty)), 5, 3},
		{nested(199, atom), 200, 200},
		{wide(4096), 4096, 4},
		{doubled(11, atom), 4095, 12},
	} {
		if Size(c.t) != c.size || Depth(c.t) != c.depth {
			t.Errorf("%.100s: Size %d, Depth %d, not %d, %d", text(c.t), Size(c.t), Depth(c.t), c.size, c.depth)
		}
	}
}

// P6.2: the items of lists that end anyhow, and of what is no list.
func TestItems(t *testing.T) {
	one, two := Int(1), Int(2)
	for _, c := range []struct {
		t, tail api.Term
		items   []api.Term
	}{
		{empty, empty, nil},
		{atom, atom, nil},
		{Var(4), Var(4), nil},
		{Int(4), Int(4), nil},
		{Atom("."), Atom("."), nil},
		{f(one, two), f(one, two), nil},
		{compound(".", one), compound(".", one), nil},
		{compound(".", one, two, empty), compound(".", one, two, empty), nil},
		{compound("[]", one, two), compound("[]", one, two), nil},
		{cons(one, empty), empty, []api.Term{one}},
		{cons(one, cons(two, empty)), empty, []api.Term{one, two}},
		{cons(one, cons(two, Var(7))), Var(7), []api.Term{one, two}},
		{cons(one, two), two, []api.Term{one}},
		{cons(cons(one, empty), cons(f(two), f(Var(0)))), f(Var(0)), []api.Term{cons(one, empty), f(two)}},
		{cons(one, compound(".", two, empty, empty)), compound(".", two, empty, empty), []api.Term{one}},
	} {
		before := text(c.t)
		items, tail := Items(c.t)
		is(t, "items", f(items...), f(c.items...))
		is(t, "tail", tail, c.tail)
		apart(t, "Items", []api.Term{c.t}, f(items...), tail)
		if text(c.t) != before {
			t.Error("what was handed in has changed:", before)
		}
	}
}

// P6.2: Ground.
func TestGround(t *testing.T) {
	for _, x := range []api.Term{atom, Int(1), empty, f(atom, f(Int(0))), wide(4096), nested(199, atom)} {
		if !Ground(x) {
			t.Errorf("%.100s is not ground", text(x))
		}
	}
	for _, x := range []api.Term{Var(0), Var(3), f(Var(0)), f(atom, f(Int(0), f(Var(1)))), f(Var(1), atom), nested(199, Var(0)), f(wide(4000), Var(0))} {
		if Ground(x) {
			t.Errorf("%.100s is ground", text(x))
		}
	}
}

// P6.2, R3: a clone is the same, in memory of its own.
func TestClone(t *testing.T) {
	for name, x := range good {
		before := text(x)
		y := Clone(x)
		is(t, name, y, x)
		apart(t, name, []api.Term{x}, y)
		if !Same(x, y) || text(x) != before {
			t.Error(name, "has changed")
		}
	}
}

// R3: what lies behind a list's end is neither changed nor told.
func TestSpareRoom(t *testing.T) {
	l := make([]api.Term, 4)
	l[0], l[1], l[2], l[3] = Var(7), Var(8), Var(9), api.Term{Kind: 99}
	x := api.Term{Kind: api.KindComp, S: ".", L: l[:2]}
	y, n := Rename(x)
	is(t, "Rename", y, cons(Var(0), Var(1)))
	items, tail := Items(x)
	if n != 2 || len(items) != 1 || tail.N != 8 || Size(x) != 3 || !slices.Equal(Vars(x), []int{7, 8}) || Check(x) != api.OK {
		t.Error(n, items, tail, Size(x), Vars(x), Check(x))
	}
	is(t, "Replace", Replace(Var(0), l[:1]), Var(7))
	is(t, "Replace", Replace(Var(1), l[:1]), Var(1))
	is(t, "List", List(l[:1], l[1]), cons(Var(7), Var(8)))
	is(t, "Comp", Comp("f", l[:1]...), f(Var(7)))
	if l[0].N != 7 || l[1].N != 8 || l[2].N != 9 || l[3].Kind != 99 {
		t.Error("changed", l)
	}
}

// P6.2: Variant.
func TestVariant(t *testing.T) {
	for _, c := range []struct {
		a, b api.Term
		is   bool
	}{
		{Var(3), Var(8), true},
		{Var(3), atom, false},
		{Var(1), Int(1), false},
		{atom, atom, true},
		{atom, Atom("b"), false},
		{f(Var(0), Var(1)), f(Var(1), Var(0)), true},
		{f(Var(0), Var(1)), f(Var(2), Var(2)), false},
		{f(Var(2), Var(2)), f(Var(0), Var(1)), false},
		{f(Var(7), Var(3), Var(7)), f(Var(2), Var(9), Var(2)), true},
		{f(Var(7), Var(3), Var(7)), f(Var(2), Var(2), Var(9)), false},
		{f(Var(0), Int(0)), f(Var(1), Int(1)), false},
		{f(Var(0)), compound("g", Var(0)), false},
		{f(Var(0)), f(Var(0), Var(0)), false},
		{nested(199, Var(5)), nested(199, Var(api.MaxVar-1)), true},
		{nested(199, Var(5)), nested(198, Var(5)), false},
	} {
		if Variant(c.a, c.b) != c.is || Variant(c.b, c.a) != c.is {
			t.Errorf("Variant(%.100s, %.100s) = %v", text(c.a), text(c.b), !c.is)
		}
	}
}

// P6.2, P6.3: for many terms: what is renamed is a variant, and stays the same; Vars tells what Rename counts; a list has its items.
func TestWhatFollows(t *testing.T) {
	s := source(7)
	variants := 0
	for range 3000 {
		x, y := s.term(4), s.term(3)
		r, n := Rename(x)
		again, m := Rename(r)
		vars := Vars(x)
		if !Variant(x, r) || !Same(r, again) || n != m || len(vars) != n || Ground(x) != (n == 0) {
			t.Fatalf("%s renamed: %s, %d, then %s, %d; Vars %v", text(x), text(r), n, text(again), m, vars)
		}
		// Each variable's number is its place in Vars: put back, they make the term again.
		with := make([]api.Term, n)
		for i, v := range vars {
			with[i] = Var(v)
		}
		is(t, "put back", Replace(r, with), x)
		ry, _ := Rename(y)
		if Variant(x, y) != (text(r) == text(ry)) {
			t.Fatalf("Variant(%s, %s) = %v", text(x), text(y), Variant(x, y))
		}
		if Variant(x, y) && !Same(x, y) {
			variants++
		}
		if n := strings.Count(text(x), "\"") / 2; Size(x) != n {
			t.Fatalf("Size(%s) = %d", text(x), Size(x))
		}
		items := make([]api.Term, s.next(5))
		for i := range items {
			items[i] = s.term(3)
		}
		got, tail := Items(List(items, f(y)))
		is(t, "items", f(got...), f(items...))
		is(t, "tail", tail, f(y))
		is(t, "made again", List(Items(x)), x)
	}
	if variants < 50 {
		t.Error("so few were variants:", variants)
	}
}

// R3, R4: a variable's number may be used anew by each call: nothing is kept.
func TestNothingIsKept(t *testing.T) {
	x := f(Var(7), Var(3))
	for range 3 {
		y, n := Rename(x)
		is(t, "Rename", y, f(Var(0), Var(1)))
		if n != 2 {
			t.Error(n)
		}
		y.L[0] = Int(9)
		z := Replace(x, times(8, atom))
		is(t, "Replace", z, f(atom, atom))
		z.L[0] = Int(9)
	}
}
