package order_test

import (
	"slices"
	"strconv"
	"strings"
	"testing"

	"elenchus/api"
	"elenchus/order"
)

// The terms of these tests are laid by hand, so that lists stand in them as the tests want.

func v(n int) api.Term         { return api.Term{Kind: api.KindVar, N: n} }
func i(n int) api.Term         { return api.Term{Kind: api.KindInt, N: n} }
func a(s string) api.Term      { return api.Term{Kind: api.KindAtom, S: s} }
func f(l ...api.Term) api.Term { return c("f", l...) }
func c(s string, l ...api.Term) api.Term {
	return api.Term{Kind: api.KindComp, S: s, L: l}
}

// nested answers the term that many levels below others.
func nested(levels int, inner api.Term) api.Term {
	for range levels {
		inner = c("s", inner)
	}
	return inner
}

// wide answers a term of 4096 parts, of which the last but so many is that one.
func wide(fromEnd int, inner api.Term) api.Term {
	parts := 1
	var args []api.Term
	for range 15 {
		args = append(args, nested(180, i(parts)))
		parts += 181
	}
	var last []api.Term
	for j := range 15 {
		n := min(api.MaxNodes-parts-2-(14-j), 99)
		last = append(last, nested(n-1, i(j)))
		parts += n
	}
	parts += 2
	last = append(last, nested(api.MaxNodes-parts, i(0)))
	all := []*api.Term{}
	collect(args, &all)
	collect(last, &all)
	*all[len(all)-1-fromEnd] = inner
	return c("w", append(args, c("w", last...))...)
}

// collect puts the places of all parts that are no compounds behind the others.
func collect(l []api.Term, all *[]*api.Term) {
	for j := range l {
		if len(l[j].L) == 0 {
			*all = append(*all, &l[j])
		}
		collect(l[j].L, all)
	}
}

// text writes any value of api.Term, so that just those that are the same have the same text.
func text(t api.Term) string {
	var b strings.Builder
	b.WriteString(strconv.Itoa(t.Kind) + ":" + strconv.Itoa(t.N) + ":" + strconv.Quote(t.S))
	for _, arg := range t.L {
		b.WriteString("(" + text(arg) + ")")
	}
	return b.String()
}

// texts writes each of these.
func texts(l []api.Term) []string {
	var all []string
	for _, t := range l {
		all = append(all, text(t))
	}
	return all
}

// compares checks the order of two terms, and of these the other way round.
func compares(t *testing.T, x, y api.Term, way int, want api.Errno) {
	t.Helper()
	if n, e := order.Compare(x, y); n != way || e != want {
		t.Errorf("Compare(%.80s, %.80s) = %d, %d, not %d, %d", text(x), text(y), n, e, way, want)
	}
	if n, e := order.Compare(y, x); n != -way || e != want {
		t.Errorf("Compare(%.80s, %.80s) = %d, %d, not %d, %d", text(y), text(x), n, e, -way, want)
	}
}

// refuses checks that the error is answered, and nothing beside it, by all that go through a list.
func refuses(t *testing.T, what string, l []api.Term, want api.Errno) {
	t.Helper()
	if s, e := order.Sort(l); len(s) != 0 || e != want {
		t.Errorf("%s: Sort: %d terms, %d, not %d", what, len(s), e, want)
	}
	if m, e := order.Merge(l); len(m) != 0 || e != want {
		t.Errorf("%s: Merge: %d terms, %d, not %d", what, len(m), e, want)
	}
	if n, e := order.Least(l); n != 0 || e != want {
		t.Errorf("%s: Least: %d, %d, not %d", what, n, e, want)
	}
}

// sorts checks what the list is sorted to, merged to, and which one is the least.
func sorts(t *testing.T, l, sorted, merged []api.Term, least int) {
	t.Helper()
	if s, e := order.Sort(l); e != api.OK || !slices.Equal(texts(s), texts(sorted)) {
		t.Errorf("Sort(%q) = %q, %d, not %q", texts(l), texts(s), e, texts(sorted))
	}
	if m, e := order.Merge(l); e != api.OK || !slices.Equal(texts(m), texts(merged)) {
		t.Errorf("Merge(%q) = %q, %d, not %q", texts(l), texts(m), e, texts(merged))
	}
	want := api.OK
	if len(l) == 0 {
		want = api.ErrNone
	}
	if n, e := order.Least(l); n != least || e != want {
		t.Errorf("Least(%q) = %d, %d, not %d, %d", texts(l), n, e, least, want)
	}
}

// rising are terms each of which is ahead of all behind it.
func rising() []api.Term {
	return []api.Term{
		v(3),
		i(-api.MaxInt), i(-api.MaxInt + 1), i(-10), i(-2), i(-1), i(0), i(1), i(2), i(9), i(10), i(api.MaxInt - 1), i(api.MaxInt),
		a(""), a("\x00"), a("1"), a("A"), a("Z"), a("[]"), a("a"), a("a\x00"), a("a\x00\x00"), a("aa"), a("ab"), a("abc"), a("ac"), a("b"),
		a(strings.Repeat("n", 63)), a(strings.Repeat("n", 64)), a("z"), a("{}"), a("\x7f"), a("\x80"), a("é"), a("日"), a("\xfe"), a("\xff"), a("\xff\x00"),
		c("", i(0)), f(v(3)), f(i(-1)), f(i(1)), f(a("a")), f(f(v(3))), f(f(i(1))), f(f(a(""))), f(f(f(i(0)))), f(c("g", i(0))), f(f(i(0), i(0))), c("fa", i(0)), c("g", v(3)), c("g", i(0)), c("g", a("a")), c("\x80", i(0)),
		c("", v(3), v(3)), c(".", i(1), a("[]")), c(".", i(1), c(".", i(0), a("[]"))), c(".", i(2), a("[]")), f(v(3), v(3)), f(i(0), i(1)), f(i(0), a("a")), f(i(1), v(3)), f(i(1), i(0)), f(a("a"), i(0)),
		c("a", i(0), i(0), i(0)), c("b", i(0), i(0), i(0)), c("b", i(0), i(0), i(1)), c("b", i(0), i(1), i(0)), c("b", i(1), i(0), i(0)),
		c("a", slices.Repeat([]api.Term{i(0)}, 15)...), c("A", slices.Repeat([]api.Term{i(0)}, 16)...), c("a", slices.Repeat([]api.Term{i(0)}, 16)...),
	}
}

// P7.1: variables, integers, atoms, compounds; each kind in its order.
func TestCompare(t *testing.T) {
	l, again := rising(), rising()
	for m, x := range l {
		for n, y := range again {
			switch {
			case m < n:
				compares(t, x, y, -1, api.OK)
			case m == n:
				compares(t, x, y, 0, api.OK)
			}
		}
	}
}

// P7.1: variables that meet ahead of what decides, and behind it.
func TestCompareVariables(t *testing.T) {
	for _, k := range []struct {
		x, y api.Term
		way  int
		want api.Errno
	}{
		{v(0), v(0), 0, api.OK},
		{v(api.MaxVar - 1), v(api.MaxVar - 1), 0, api.OK},
		{v(0), v(1), 0, api.ErrInst},
		{v(0), v(api.MaxVar - 1), 0, api.ErrInst},
		{v(9), i(-api.MaxInt), -1, api.OK},
		{v(9), a(""), -1, api.OK},
		{v(9), f(v(8)), -1, api.OK},
		{f(v(0)), f(v(0)), 0, api.OK},
		{f(v(0)), f(v(1)), 0, api.ErrInst},
		{f(v(0)), f(i(0)), -1, api.OK},
		// An arity, or a name, decides ahead of all arguments.
		{f(v(0)), f(v(1), i(0)), -1, api.OK},
		{c("g", v(0)), f(v(1), v(2)), -1, api.OK},
		{f(v(0)), c("g", v(1)), -1, api.OK},
		{c("f", v(0), v(1)), c("fa", v(1), v(0)), -1, api.OK},
		// What meets first decides.
		{f(v(0), i(1)), f(v(1), i(2)), 0, api.ErrInst},
		{f(v(0), i(1)), f(v(1), i(1)), 0, api.ErrInst},
		{f(i(1), v(0)), f(i(2), v(1)), -1, api.OK},
		{f(i(1), v(0)), f(i(1), v(1)), 0, api.ErrInst},
		{f(v(0), i(1)), f(v(0), i(2)), -1, api.OK},
		{f(v(0), v(1)), f(v(0), v(1)), 0, api.OK},
		{f(v(0), v(1)), f(v(0), v(2)), 0, api.ErrInst},
		{f(v(0), v(1)), f(v(1), v(0)), 0, api.ErrInst},
		{f(v(0), v(0)), f(v(1), v(1)), 0, api.ErrInst},
		{f(v(0), v(1)), f(i(5), v(2)), -1, api.OK},
		{f(i(1), v(0), i(1)), f(i(1), v(1), i(2)), 0, api.ErrInst},
		{f(i(1), i(1), v(0)), f(i(1), i(2), v(1)), -1, api.OK},
		{f(f(v(0)), i(1)), f(f(v(1)), i(0)), 0, api.ErrInst},
		{f(f(i(0)), v(0)), f(f(i(1)), v(1)), -1, api.OK},
		{f(f(i(0), v(0)), i(1)), f(f(i(1), v(1)), i(0)), -1, api.OK},
		{f(f(v(0)), i(1)), f(f(v(1), v(1)), i(0)), -1, api.OK},
		{f(f(v(0)), v(0)), f(f(v(0)), v(0)), 0, api.OK},
		{f(f(v(0)), v(0)), f(f(v(0)), v(1)), 0, api.ErrInst},
		{nested(199, v(0)), nested(199, v(1)), 0, api.ErrInst},
		{nested(199, v(0)), nested(199, v(0)), 0, api.OK},
		{nested(199, v(0)), nested(199, i(0)), -1, api.OK},
		{wide(0, v(0)), wide(0, v(1)), 0, api.ErrInst},
		{wide(1, i(0)), wide(1, i(1)), -1, api.OK},
	} {
		compares(t, k.x, k.y, k.way, k.want)
	}
}

// bad answers values that may not be terms, and what is wrong with each.
func bad() map[string]struct {
	x    api.Term
	want api.Errno
} {
	type wrong = struct {
		x    api.Term
		want api.Errno
	}
	double := a("a")
	for range 40 {
		double = f(double, double)
	}
	loop := []api.Term{i(0), {}}
	loop[1] = c("f", loop...)
	return map[string]wrong{
		"nothing":        {api.Term{}, api.ErrTerm},
		"kind":           {api.Term{Kind: 5}, api.ErrTerm},
		"variable":       {v(-1), api.ErrTerm},
		"great variable": {v(api.MaxVar), api.ErrTerm},
		"integer":        {i(api.MaxInt + 1), api.ErrTerm},
		"least":          {i(-api.MaxInt - 1), api.ErrTerm},
		"name":           {a(strings.Repeat("n", 65)), api.ErrTerm},
		"argument":       {f(i(1), api.Term{}), api.ErrTerm},
		"arguments":      {c("f", slices.Repeat([]api.Term{i(0)}, 17)...), api.ErrTerm},
		"deep":           {nested(200, i(0)), api.ErrDepth},
		"within itself":  {loop[1], api.ErrDepth},
		"many":           {f(wide(0, i(0))), api.ErrMany},
		"double":         {double, api.ErrMany},
	}
}

// P7.1: what term.Check refuses of the first one, then of the second one, ahead of all else.
func TestCompareRefuses(t *testing.T) {
	check := func(what string, x, y api.Term, want api.Errno) {
		t.Helper()
		if n, e := order.Compare(x, y); n != 0 || e != want {
			t.Errorf("%s: %d, %d, not %d", what, n, e, want)
		}
	}
	for what, x := range bad() {
		for _, fine := range []api.Term{v(0), i(0), a("a"), f(v(1), i(9)), nested(199, i(0))} {
			check(what+" first", x.x, fine, x.want)
			check(what+" second", fine, x.x, x.want)
		}
		for other, y := range bad() {
			check(what+" and "+other, x.x, y.x, x.want)
		}
	}
	check("variables ahead", f(v(0), api.Term{}), f(v(1), i(0)), api.ErrTerm)
	check("variables ahead, second", f(v(0), i(0)), f(v(1), api.Term{}), api.ErrTerm)
}

// P7.2: lists of one kind and of several.
func TestSort(t *testing.T) {
	sorts(t, nil, nil, nil, 0)
	sorts(t, []api.Term{}, nil, nil, 0)
	for _, x := range rising() {
		sorts(t, []api.Term{x}, []api.Term{x}, []api.Term{x}, 0)
	}
	example := []api.Term{i(2), a("a"), f(i(1)), c("g", i(0)), f(i(0), i(0))}
	sorts(t, example, example, example, 0)
	sorts(t, []api.Term{example[4], example[2], example[0], example[3], example[1]}, example, example, 2)
	sorts(t, []api.Term{i(3), i(1), i(2), i(1), i(3)}, []api.Term{i(1), i(1), i(2), i(3), i(3)}, []api.Term{i(1), i(2), i(3)}, 1)
	sorts(t, []api.Term{i(1), i(1), i(1)}, []api.Term{i(1), i(1), i(1)}, []api.Term{i(1)}, 0)
	sorts(t, []api.Term{i(2), i(2), i(1), i(1)}, []api.Term{i(1), i(1), i(2), i(2)}, []api.Term{i(1), i(2)}, 2)
	sorts(t, []api.Term{a("b"), f(v(0)), v(0), a("b"), f(v(0)), v(0)}, []api.Term{v(0), v(0), a("b"), a("b"), f(v(0)), f(v(0))}, []api.Term{v(0), a("b"), f(v(0))}, 2)
	up := rising()
	down := rising()
	slices.Reverse(down)
	sorts(t, up, up, up, 0)
	sorts(t, down, up, up, len(up)-1)
	sorts(t, append(down, up...), slices.Concat(pairs(up)...), up, len(up)-1)
}

// pairs answers of each term a list of it and itself.
func pairs(l []api.Term) [][]api.Term {
	var all [][]api.Term
	for _, x := range l {
		all = append(all, []api.Term{x, x})
	}
	return all
}

// P7.2: as many as may be sorted at once, and one more.
func TestSortMany(t *testing.T) {
	var l, merged []api.Term
	for n := range api.MaxSort {
		l = append(l, i(n*37%100))
	}
	sorted := slices.SortedStableFunc(slices.Values(l), func(x, y api.Term) int { return x.N - y.N })
	for n := range 100 {
		merged = append(merged, i(n))
	}
	sorts(t, l, sorted, merged, 0)
	refuses(t, "257", append(l, i(5)), api.ErrLong)
	refuses(t, "257 alike", slices.Repeat([]api.Term{i(5)}, 257), api.ErrLong)
	refuses(t, "very many", slices.Repeat([]api.Term{a("a")}, 100000), api.ErrLong)
	alike := slices.Repeat([]api.Term{i(5)}, 256)
	sorts(t, alike, alike, alike[:1], 0)
}

// P7.2: what is wrong with a term is told ahead of there being too many, and that ahead of terms without an order.
func TestSortRefuses(t *testing.T) {
	for what, x := range bad() {
		refuses(t, what+" alone", []api.Term{x.x}, x.want)
		refuses(t, what+" first", []api.Term{x.x, i(0), i(1)}, x.want)
		refuses(t, what+" within", []api.Term{i(0), x.x, i(1)}, x.want)
		refuses(t, what+" last", []api.Term{v(0), v(1), x.x}, x.want)
		refuses(t, what+" of too many", append(slices.Repeat([]api.Term{v(0), v(1)}, 150), x.x), x.want)
		for other, y := range bad() {
			refuses(t, what+" and "+other, []api.Term{i(0), x.x, i(1), y.x}, x.want)
		}
	}
	refuses(t, "too many, of no order", slices.Repeat([]api.Term{v(0), v(1)}, 150), api.ErrLong)
	refuses(t, "256 of no order", slices.Repeat([]api.Term{v(0), v(1)}, 128), api.ErrInst)
}

// P7.2: each pair of terms has to have an order, wherever they stand.
func TestSortVariables(t *testing.T) {
	refuses(t, "two", []api.Term{v(0), v(1)}, api.ErrInst)
	refuses(t, "two, others between", []api.Term{v(4), i(1), a("a"), v(3)}, api.ErrInst)
	refuses(t, "within", []api.Term{f(v(0), i(2)), f(i(1), i(1)), i(0), f(v(1), i(1))}, api.ErrInst)
	refuses(t, "one alike with each", []api.Term{f(v(1), i(0)), f(v(1), i(1)), f(v(2), i(0))}, api.ErrInst)
	refuses(t, "the greatest two", []api.Term{i(0), a("a"), f(i(0), v(0)), f(i(0), v(7))}, api.ErrInst)
	refuses(t, "the least of which is not among them", []api.Term{f(v(1)), v(0), f(v(2))}, api.ErrInst)
	var l []api.Term
	for n := range 250 {
		l = append(l, i(n))
	}
	refuses(t, "of many", slices.Concat(l[:100], []api.Term{f(v(9), i(0))}, l[100:], []api.Term{f(v(2), i(0))}), api.ErrInst)
	sorts(t, []api.Term{f(i(2), v(0)), f(i(1), v(1)), f(i(0), v(2))}, []api.Term{f(i(0), v(2)), f(i(1), v(1)), f(i(2), v(0))}, []api.Term{f(i(0), v(2)), f(i(1), v(1)), f(i(2), v(0))}, 2)
	sorts(t, []api.Term{f(v(1)), c("g", v(2)), v(0), f(v(3), v(4))}, []api.Term{v(0), f(v(1)), c("g", v(2)), f(v(3), v(4))}, []api.Term{v(0), f(v(1)), c("g", v(2)), f(v(3), v(4))}, 2)
}

// P7.2, R1: the largest terms, and many of them, are sorted, too.
func TestSortLarge(t *testing.T) {
	var l []api.Term
	for n := range api.MaxSort {
		l = append(l, wide(0, i(n%3)))
	}
	s, e := order.Sort(l)
	m, e2 := order.Merge(l)
	n, e3 := order.Least(l[1:])
	if e != api.OK || e2 != api.OK || e3 != api.OK || len(s) != len(l) || len(m) != 3 || n != 2 {
		t.Error(e, e2, e3, len(s), len(m), n)
	}
	l[200] = wide(0, v(0))
	l[201] = wide(0, v(1))
	refuses(t, "large", l, api.ErrInst)
}

// spoil overwrites all terms of the list and of their lists, and the spare room.
func spoil(l []api.Term) {
	for _, x := range l {
		spoil(x.L)
	}
	l = l[:cap(l)]
	for n := range l {
		l[n] = api.Term{Kind: api.KindAtom, S: "spoilt"}
	}
}

// R3: what is handed in stays as it was, behind the list's end too, and shares nothing with what is answered; nor do the answer's terms with one another.
func TestSortApart(t *testing.T) {
	for what, call := range map[string]func([]api.Term) ([]api.Term, api.Errno){"Sort": order.Sort, "Merge": order.Merge} {
		shared := []api.Term{i(1), f(v(0)), i(2)}
		all := []api.Term{f(shared[:2]...), a("b"), f(shared[:2]...), c("e", shared...), i(0), a("behind"), v(9)}
		before := texts(append(slices.Clone(all), shared...))
		s, e := call(all[:5])
		if e != api.OK {
			t.Fatal(what, e)
		}
		for len(s) > 0 {
			rest := texts(s[1:])
			spoil(s[0].L)
			if !slices.Equal(texts(s[1:]), rest) {
				t.Error(what, "terms of the answer share memory")
			}
			s = s[1:]
		}
		s, _ = call(all[:5])
		spoil(s)
		if !slices.Equal(texts(append(slices.Clone(all), shared...)), before) {
			t.Error(what, "the answer shares memory with the argument")
		}
		s, _ = call(all[:5])
		kept := texts(s)
		spoil(all)
		if !slices.Equal(texts(s), kept) {
			t.Error(what, "the argument shares memory with the answer")
		}
	}
	all := []api.Term{i(3), i(1), i(2), i(0)}
	before := texts(all)
	order.Compare(f(all[:2]...), f(all[1:3]...))
	order.Least(all[:3])
	if !slices.Equal(texts(all), before) {
		t.Error("the argument is changed")
	}
}

// flat answers the term's parts in order, each as a text: those of two terms are gone through together up to the first two that are not alike.
func flat(x api.Term) []string {
	pad := func(n int) string { return strings.Repeat("0", 20-len(strconv.Itoa(n))) + strconv.Itoa(n) }
	switch x.Kind {
	case api.KindVar:
		return []string{"1" + strconv.Itoa(x.N)}
	case api.KindInt:
		return []string{"2" + pad(x.N+api.MaxInt)}
	case api.KindAtom:
		return []string{"3" + x.S}
	}
	parts := []string{"4" + pad(len(x.L)) + x.S}
	for _, arg := range x.L {
		parts = append(parts, flat(arg)...)
	}
	return parts
}

// meant answers what the order of the two is meant to be.
func meant(x, y api.Term) (int, api.Errno) {
	m, n := flat(x), flat(y)
	for k := range min(len(m), len(n)) {
		switch {
		case m[k] == n[k]:
		case m[k][0] == '1' && n[k][0] == '1':
			return 0, api.ErrInst
		default:
			return strings.Compare(m[k], n[k]), api.OK
		}
	}
	return 0, api.OK
}

// source is a row of numbers that look like random ones.
type source uint64

func (s *source) next(n int) int {
	*s = *s*6364136223846793005 + 1442695040888963407
	return int(*s >> 33 % source(n))
}

// term answers some term of at most so many levels, with variables of so many numbers.
func (s *source) term(levels, vars int) api.Term {
	switch k := s.next(8); {
	case k < 2 && vars > 0:
		return v(s.next(vars))
	case k < 3:
		return i(s.next(3) - 1)
	case k < 4 || levels <= 1:
		return a([]string{"a", "ab", "", "\xe9"}[s.next(4)])
	}
	args := make([]api.Term, 1+s.next(2))
	for k := range args {
		args[k] = s.term(levels-1, vars)
	}
	return c([]string{"f", "g"}[s.next(2)], args...)
}

// P7.1, P7.3: terms of all kinds are in the order that is meant; what is ahead of a second one that is ahead of a third one is ahead of that.
func TestOrder(t *testing.T) {
	s := source(7)
	var l []api.Term
	for range 120 {
		l = append(l, s.term(3, 2))
	}
	for _, x := range l {
		for _, y := range l {
			way, e := order.Compare(x, y)
			if want, wrong := meant(x, y); way != want || e != wrong {
				t.Fatalf("Compare(%s, %s) = %d, %d, not %d, %d", text(x), text(y), way, e, want, wrong)
			}
			if e != api.OK || way > 0 {
				continue
			}
			for _, z := range l {
				after, e := order.Compare(y, z)
				if e != api.OK || after > 0 {
					continue
				}
				if whole, e := order.Compare(x, z); e == api.OK && whole != min(way, after) {
					t.Fatalf("%s, %s, %s: %d, %d, but %d", text(x), text(y), text(z), way, after, whole)
				}
			}
		}
	}
}

// sortMeant answers what a list is meant to be sorted to, and the least one's place.
func sortMeant(l []api.Term) ([]api.Term, int, api.Errno) {
	for _, x := range l {
		for _, y := range l {
			if _, e := meant(x, y); e != api.OK {
				return nil, 0, e
			}
		}
	}
	var sorted []api.Term
	least := 0
	for n, x := range l {
		if way, _ := meant(x, l[least]); way < 0 {
			least = n
		}
		at := len(sorted)
		for at > 0 {
			if way, _ := meant(x, sorted[at-1]); way >= 0 {
				break
			}
			at--
		}
		sorted = slices.Insert(sorted, at, x)
	}
	return sorted, least, api.OK
}

// P7.2, P7.3: any lists are sorted as is meant; an order is missing just where a pair has none.
func TestSortAny(t *testing.T) {
	s := source(11)
	refused := 0
	for range 4000 {
		l := make([]api.Term, 1+s.next(12))
		vars := s.next(4)
		for n := range l {
			l[n] = s.term(4, vars)
		}
		sorted, least, e := sortMeant(l)
		if e != api.OK {
			refused++
			refuses(t, strings.Join(texts(l), " "), l, e)
			continue
		}
		sorts(t, l, sorted, slices.CompactFunc(slices.Clone(sorted), func(x, y api.Term) bool { return text(x) == text(y) }), least)
	}
	if refused < 400 || refused > 3600 {
		t.Error("lists without an order:", refused)
	}
}
