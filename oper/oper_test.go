package oper_test

import (
	"slices"
	"strconv"
	"strings"
	"testing"

	"elenchus/api"
	"elenchus/oper"
)

// initial is the operators at the beginning, as All tells them: by the bytes of their names.
var initial = []api.Op{
	{Prec: 400, Type: api.OpYfx, Name: "*"},
	{Prec: 500, Type: api.OpYfx, Name: "+"},
	{Prec: 1000, Type: api.OpXfy, Name: ","},
	{Prec: 500, Type: api.OpYfx, Name: "-"},
	{Prec: 200, Type: api.OpFy, Name: "-"},
	{Prec: 1050, Type: api.OpXfy, Name: "->"},
	{Prec: 400, Type: api.OpYfx, Name: "/"},
	{Prec: 400, Type: api.OpYfx, Name: "//"},
	{Prec: 1200, Type: api.OpXfx, Name: ":-"},
	{Prec: 1200, Type: api.OpFx, Name: ":-"},
	{Prec: 1100, Type: api.OpXfy, Name: ";"},
	{Prec: 700, Type: api.OpXfx, Name: "<"},
	{Prec: 700, Type: api.OpXfx, Name: "="},
	{Prec: 700, Type: api.OpXfx, Name: "=.."},
	{Prec: 700, Type: api.OpXfx, Name: "=:="},
	{Prec: 700, Type: api.OpXfx, Name: "=<"},
	{Prec: 700, Type: api.OpXfx, Name: "=="},
	{Prec: 700, Type: api.OpXfx, Name: `=\=`},
	{Prec: 700, Type: api.OpXfx, Name: ">"},
	{Prec: 700, Type: api.OpXfx, Name: ">="},
	{Prec: 700, Type: api.OpXfx, Name: "@<"},
	{Prec: 700, Type: api.OpXfx, Name: "@=<"},
	{Prec: 700, Type: api.OpXfx, Name: "@>"},
	{Prec: 700, Type: api.OpXfx, Name: "@>="},
	{Prec: 900, Type: api.OpFy, Name: `\+`},
	{Prec: 700, Type: api.OpXfx, Name: `\=`},
	{Prec: 700, Type: api.OpXfx, Name: `\==`},
	{Prec: 200, Type: api.OpXfy, Name: "^"},
	{Prec: 700, Type: api.OpXfx, Name: "is"},
	{Prec: 400, Type: api.OpYfx, Name: "mod"},
	{Prec: 400, Type: api.OpYfx, Name: "rem"},
}

// types are all types, the infix ones ahead.
var types = []int{api.OpXfx, api.OpXfy, api.OpYfx, api.OpFy, api.OpFx}

// prefix tells whether it is a type of prefix operators.
func prefix(kind int) bool {
	return kind == api.OpFy || kind == api.OpFx
}

// find answers the operator of that name among these, the prefix one or the infix one.
func find(l []api.Op, name string, isPrefix bool) (api.Op, bool) {
	n := slices.IndexFunc(l, func(o api.Op) bool { return o.Name == name && prefix(o.Type) == isPrefix })
	if n < 0 {
		return api.Op{}, false
	}
	return l[n], true
}

// holds checks that the table has just these operators, in whatever order they come: asked for all, and for each name among these and some others.
func holds(t *testing.T, table *oper.Table, want []api.Op) {
	t.Helper()
	want = slices.Clone(want)
	slices.SortFunc(want, func(a, b api.Op) int {
		if a.Name != b.Name {
			return strings.Compare(a.Name, b.Name)
		}
		return a.Type - b.Type
	})
	if got := table.All(); !slices.Equal(got, want) {
		t.Fatalf("All() = %v, not %v", got, want)
	}
	names := []string{"", "a", "b", "[]", "{}", "'", "Is", "iss", "i", ":", "-->", "--", "xfx", "\x00", "|", "!", "."}
	for _, o := range want {
		names = append(names, o.Name)
	}
	for _, name := range names {
		infix, isInfix := find(want, name, false)
		if o, is := table.Infix(name); o != infix || is != isInfix {
			t.Fatalf("Infix(%q) = %v, %v", name, o, is)
		}
		prefix, isPrefix := find(want, name, true)
		if o, is := table.Prefix(name); o != prefix || is != isPrefix {
			t.Fatalf("Prefix(%q) = %v, %v", name, o, is)
		}
		if is := table.Is(name); is != (isInfix || isPrefix) {
			t.Fatalf("Is(%q) = %v", name, is)
		}
	}
}

// sets checks what Set answers.
func sets(t *testing.T, table *oper.Table, o api.Op, want api.Errno) {
	t.Helper()
	if e := table.Set(o); e != want {
		t.Fatalf("Set(%.80v) = %d, not %d", o, e, want)
	}
}

// refuses checks that a table does not take the operator, and stays as it was.
func refuses(t *testing.T, o api.Op, want api.Errno) {
	t.Helper()
	table := oper.New()
	sets(t, table, o, want)
	holds(t, table, initial)
}

// without answers the operators but the one of that name, the prefix one or the infix one.
func without(l []api.Op, name string, isPrefix bool) []api.Op {
	return slices.DeleteFunc(slices.Clone(l), func(o api.Op) bool { return o.Name == name && prefix(o.Type) == isPrefix })
}

// with answers the operators with that one in the place of another.
func with(l []api.Op, o api.Op) []api.Op {
	return append(without(l, o.Name, prefix(o.Type)), o)
}

// P9.1: the operators at the beginning, in each table.
func TestNew(t *testing.T) {
	for range 3 {
		table := oper.New()
		if l := table.All(); !slices.Equal(l, initial) {
			t.Fatal(l)
		}
		holds(t, table, initial)
		sets(t, table, api.Op{Prec: 0, Type: api.OpXfx, Name: "is"}, api.OK)
		sets(t, table, api.Op{Prec: 7, Type: api.OpFx, Name: "a"}, api.OK)
	}
}

// P9.1: precedences from the least to the greatest, and beyond.
func TestPrecedence(t *testing.T) {
	for _, kind := range types {
		for _, prec := range []int{1, 2, 200, 999, 1000, 1001, 1199, 1200} {
			table := oper.New()
			for _, name := range []string{"likes", "-", ":-", "is"} {
				o := api.Op{Prec: prec, Type: kind, Name: name}
				sets(t, table, o, api.OK)
			}
			want := initial
			for _, name := range []string{"likes", "-", ":-", "is"} {
				want = with(want, api.Op{Prec: prec, Type: kind, Name: name})
			}
			holds(t, table, want)
		}
		for _, prec := range []int{-1, -2, -1200, -1 << 63, 1201, 1202, 2400, 1 << 32, 1<<32 + 1, 1<<63 - 1} {
			for _, name := range []string{"likes", "is", "-", "A", "[]", ",", strings.Repeat("a", 65)} {
				refuses(t, api.Op{Prec: prec, Type: kind, Name: name}, api.ErrArg)
			}
		}
	}
}

// P9.1: types that are none.
func TestType(t *testing.T) {
	for _, kind := range []int{0, -1, -5, 6, 7, 255, 257, 1 << 32, 1<<32 + 1, -1 << 63, 1<<63 - 1} {
		for _, prec := range []int{0, 1, 700, 1200, -1, 1201} {
			for _, name := range []string{"likes", "is", "-", "A", "{}", ",", strings.Repeat("a", 65)} {
				refuses(t, api.Op{Prec: prec, Type: kind, Name: name}, api.ErrArg)
			}
		}
	}
}

// P9.1: names that may be an operator's, and such as may not.
func TestName(t *testing.T) {
	long := strings.Repeat("a", 65)
	signs := strings.Repeat("+", 65)
	for _, kind := range types {
		for _, name := range []string{"a", "likes", "aB_1", "z9", "!", ";", "+", "..", "=.", "?-", "-->", "//*", "*/", "+/*", `\`, "#", "$", "&", long[:64], long[:63], signs[:64]} {
			table := oper.New()
			o := api.Op{Prec: 7, Type: kind, Name: name}
			sets(t, table, o, api.OK)
			holds(t, table, with(initial, o))
			o.Prec = 0
			sets(t, table, o, api.OK)
			holds(t, table, without(initial, name, prefix(kind)))
			sets(t, table, o, api.ErrNone)
		}
		for _, name := range []string{"", "[]", "{}", ",", "|", ".", "/*", "/**", "/*/", "A", "_", "_a", "Likes", "1", "1a", "a b", " a", "a ", "a+", "+a", "!a", "!!", ";;", "'a'", "don't", "(", ")", "()", "[", "]", "{", "}", "[ ]", "[]a", "é", "aé", "a\x00", "\x00", "\n", "\x7f", "\xff", long, signs, long + long, strings.Repeat("a", 1<<16)} {
			for _, prec := range []int{0, 1, 700, 1000, 1200} {
				refuses(t, api.Op{Prec: prec, Type: kind, Name: name}, api.ErrOp)
			}
		}
	}
}

// P9.1, P9.3: an operator set again, as the same kind and as the other one, and taken out; all others stay.
func TestSetAgain(t *testing.T) {
	for _, name := range []string{"likes", "is", "-", ":-", `\+`} {
		for _, kind := range types {
			for _, other := range types {
				table := oper.New()
				first := api.Op{Prec: 300, Type: kind, Name: name}
				second := api.Op{Prec: 1, Type: other, Name: name}
				sets(t, table, first, api.OK)
				holds(t, table, with(initial, first))
				sets(t, table, second, api.OK)
				both := with(with(initial, first), second)
				holds(t, table, both)
				// The same again changes nothing.
				sets(t, table, second, api.OK)
				holds(t, table, both)
				// Which one goes hangs on the kind, not on the type.
				second.Prec = 0
				for _, like := range types {
					if prefix(like) == prefix(other) && like != other {
						second.Type = like
					}
				}
				sets(t, table, second, api.OK)
				holds(t, table, without(both, name, prefix(other)))
				sets(t, table, second, api.ErrNone)
				holds(t, table, without(both, name, prefix(other)))
			}
		}
	}
}

// P9.1: of precedence 0, operators that are there go, each alone, and one that is not there is told.
func TestTakeOut(t *testing.T) {
	for _, o := range initial {
		gone := api.Op{Prec: 0, Type: o.Type, Name: o.Name}
		if o.Name == "," {
			refuses(t, gone, api.ErrOp)
			continue
		}
		table := oper.New()
		sets(t, table, gone, api.OK)
		holds(t, table, without(initial, o.Name, prefix(o.Type)))
		sets(t, table, gone, api.ErrNone)
		holds(t, table, without(initial, o.Name, prefix(o.Type)))
		sets(t, table, o, api.OK)
		holds(t, table, initial)
	}
	for _, name := range []string{"likes", "+", "is", ";"} {
		refuses(t, api.Op{Prec: 0, Type: api.OpFx, Name: name}, api.ErrNone)
		refuses(t, api.Op{Prec: 0, Type: api.OpFy, Name: name}, api.ErrNone)
	}
	for _, name := range []string{"likes", `\+`} {
		refuses(t, api.Op{Prec: 0, Type: api.OpXfx, Name: name}, api.ErrNone)
		refuses(t, api.Op{Prec: 0, Type: api.OpXfy, Name: name}, api.ErrNone)
		refuses(t, api.Op{Prec: 0, Type: api.OpYfx, Name: name}, api.ErrNone)
	}
	// All may go but the comma.
	table := oper.New()
	for _, o := range initial {
		if o.Name != "," {
			sets(t, table, api.Op{Prec: 0, Type: o.Type, Name: o.Name}, api.OK)
		}
	}
	comma, _ := find(initial, ",", false)
	holds(t, table, []api.Op{comma})
}

// P9.1: as many operators as there may be, of both kinds together, and one more.
func TestFull(t *testing.T) {
	for _, kind := range types {
		table := oper.New()
		want := slices.Clone(initial)
		for n := 0; len(want) < 64; n++ {
			o := api.Op{Prec: 1 + n, Type: types[n%5], Name: "o" + strconv.Itoa(n)}
			sets(t, table, o, api.OK)
			want = append(want, o)
		}
		holds(t, table, want)
		extra := api.Op{Prec: 5, Type: kind, Name: "extra"}
		for _, prec := range []int{1, 2, 1200} {
			sets(t, table, api.Op{Prec: prec, Type: kind, Name: "extra"}, api.ErrFull)
		}
		// That there is one of the other kind is of no help; that a precedence is none, or a name, is told first.
		sets(t, table, api.Op{Prec: 5, Type: api.OpFx, Name: "is"}, api.ErrFull)
		sets(t, table, api.Op{Prec: 5, Type: api.OpYfx, Name: `\+`}, api.ErrFull)
		sets(t, table, api.Op{Prec: 0, Type: kind, Name: "extra"}, api.ErrNone)
		sets(t, table, api.Op{Prec: 1201, Type: kind, Name: "extra"}, api.ErrArg)
		sets(t, table, api.Op{Prec: 5, Type: kind, Name: "Extra"}, api.ErrOp)
		holds(t, table, want)
		// One in the place of another has room.
		for _, o := range []api.Op{{Prec: 3, Type: api.OpXfy, Name: "is"}, {Prec: 4, Type: api.OpFx, Name: "-"}, {Prec: 5, Type: api.OpXfx, Name: "o0"}} {
			sets(t, table, o, api.OK)
			want = with(want, o)
			holds(t, table, want)
		}
		// So has a new one, when another is gone, and in a table that was forked as well.
		fork := table.Fork()
		sets(t, fork, extra, api.ErrFull)
		sets(t, table, api.Op{Prec: 0, Type: api.OpXfx, Name: "o0"}, api.OK)
		sets(t, table, extra, api.OK)
		sets(t, table, api.Op{Prec: 5, Type: kind, Name: "more"}, api.ErrFull)
		sets(t, fork, extra, api.ErrFull)
		holds(t, table, with(without(want, "o0", false), extra))
		holds(t, fork, want)
	}
}

// P9.2: all by rising names, infix ones ahead of prefix ones, in whatever order they were set.
func TestAll(t *testing.T) {
	ops := []api.Op{
		{Prec: 9, Type: api.OpXfx, Name: "a"}, {Prec: 9, Type: api.OpFy, Name: "a"},
		{Prec: 8, Type: api.OpFx, Name: "aB"}, {Prec: 1, Type: api.OpXfy, Name: "a_"},
		{Prec: 1, Type: api.OpYfx, Name: "aa"}, {Prec: 1200, Type: api.OpFx, Name: "aa"},
		{Prec: 700, Type: api.OpYfx, Name: "b"},
	}
	for _, order := range [][]int{{0, 1, 2, 3, 4, 5, 6}, {6, 5, 4, 3, 2, 1, 0}, {3, 1, 5, 0, 6, 2, 4}} {
		table := oper.New()
		for _, n := range order {
			sets(t, table, ops[n], api.OK)
		}
		all := table.All()
		is := slices.IndexFunc(all, func(o api.Op) bool { return o.Name == "a" })
		if is < 0 || !slices.Equal(all[is:is+7], ops) {
			t.Error(all)
		}
		holds(t, table, append(slices.Clone(initial), ops...))
	}
}

// P9.2: what is set in a table that was forked, and in the one that it was forked from, is in that one alone.
func TestFork(t *testing.T) {
	table := oper.New()
	likes := api.Op{Prec: 700, Type: api.OpXfx, Name: "likes"}
	sets(t, table, likes, api.OK)
	fork := table.Fork()
	if fork == table {
		t.Fatal("the same")
	}
	both := with(initial, likes)
	holds(t, fork, both)
	sets(t, fork, api.Op{Prec: 0, Type: api.OpXfy, Name: "likes"}, api.OK)
	sets(t, fork, api.Op{Prec: 5, Type: api.OpFx, Name: "new"}, api.OK)
	sets(t, table, api.Op{Prec: 0, Type: api.OpFx, Name: "-"}, api.OK)
	sets(t, table, api.Op{Prec: 6, Type: api.OpXfy, Name: "is"}, api.OK)
	inFork := with(initial, api.Op{Prec: 5, Type: api.OpFx, Name: "new"})
	inTable := with(without(both, "-", true), api.Op{Prec: 6, Type: api.OpXfy, Name: "is"})
	holds(t, fork, inFork)
	holds(t, table, inTable)
	again := fork.Fork()
	sets(t, fork, api.Op{Prec: 0, Type: api.OpFx, Name: "new"}, api.OK)
	holds(t, again, inFork)
	holds(t, fork, initial)
	holds(t, table, inTable)
}

// P9.2: what each operator lets stand beside it.
func TestBeside(t *testing.T) {
	for prec := 1; prec <= 1200; prec++ {
		for _, c := range []struct{ kind, left, right int }{
			{api.OpXfx, prec - 1, prec - 1}, {api.OpXfy, prec - 1, prec}, {api.OpYfx, prec, prec - 1},
			{api.OpFy, 0, prec}, {api.OpFx, 0, prec - 1},
		} {
			for _, name := range []string{"is", "", ",", "A", strings.Repeat("a", 100)} {
				beside(t, api.Op{Prec: prec, Type: c.kind, Name: name}, c.left, c.right)
			}
		}
	}
	beside(t, api.Op{Prec: 500, Type: api.OpYfx, Name: "+"}, 500, 499)
	beside(t, api.Op{Prec: 1, Type: api.OpXfx, Name: "a"}, 0, 0)
	for _, prec := range []int{0, -1, -500, -1 << 63, 1201, 1 << 32, 1<<63 - 1} {
		for _, kind := range types {
			beside(t, api.Op{Prec: prec, Type: kind, Name: "a"}, 0, 0)
		}
	}
	for _, kind := range []int{0, -1, 6, 1 << 32, 1<<32 + 1, -1 << 63, 1<<63 - 1} {
		for _, prec := range []int{-1, 0, 1, 500, 1200, 1201} {
			beside(t, api.Op{Prec: prec, Type: kind, Name: "a"}, 0, 0)
		}
	}
}

// beside checks what Left and Right answer.
func beside(t *testing.T, o api.Op, left, right int) {
	t.Helper()
	if l, r := oper.Left(o), oper.Right(o); l != left || r != right {
		t.Fatalf("of %v: %d, %d, not %d, %d", o, l, r, left, right)
	}
}

// P9.2: the types' names.
func TestTypeNames(t *testing.T) {
	for n, name := range map[int]string{api.OpXfx: "xfx", api.OpXfy: "xfy", api.OpYfx: "yfx", api.OpFy: "fy", api.OpFx: "fx"} {
		if s := oper.TypeName(n); s != name {
			t.Error(n, s)
		}
		if got := oper.TypeOf(name); got != n {
			t.Error(name, got)
		}
	}
	for _, n := range []int{0, -1, 6, 7, 1 << 32, 1<<32 + 1, -1 << 63, 1<<63 - 1} {
		if s := oper.TypeName(n); s != "" {
			t.Error(n, s)
		}
	}
	for _, s := range []string{"", "f", "x", "xf", "yf", "yfy", "Xfx", "XFX", " xfx", "xfx ", "xfxx", "fyx", "xfx\x00", "1", strings.Repeat("fx", 1000)} {
		if n := oper.TypeOf(s); n != 0 {
			t.Error(s, n)
		}
	}
}

// P9.2: of a nil table.
func TestNil(t *testing.T) {
	var table *oper.Table
	for _, o := range []api.Op{{}, {Prec: 700, Type: api.OpXfx, Name: "likes"}, {Prec: 0, Type: api.OpXfx, Name: "is"}, {Prec: -1, Type: 9, Name: ","}} {
		sets(t, table, o, api.ErrClosed)
	}
	holds(t, table, nil)
	for _, name := range []string{",", "is", "-"} {
		if o, is := table.Infix(name); o != (api.Op{}) || is {
			t.Error(o)
		}
		if o, is := table.Prefix(name); o != (api.Op{}) || is {
			t.Error(o)
		}
		if table.Is(name) {
			t.Error(name)
		}
	}
	if table.Fork() != nil {
		t.Error("a fork of nothing")
	}
}

// R3: what was answered is whoever's who asked.
func TestAnswersAreNew(t *testing.T) {
	table := oper.New()
	first, second := table.All(), table.All()
	for _, l := range [][]api.Op{first, second, table.Fork().All()} {
		l = l[:cap(l)]
		for i := range l {
			l[i] = api.Op{Prec: 1, Type: api.OpFx, Name: "spoilt"}
		}
		holds(t, table, initial)
	}
	third := table.All()
	for i := range first {
		first[i] = api.Op{}
	}
	if !slices.Equal(third, initial) || second[0].Name != "spoilt" {
		t.Error(third, second)
	}
	holds(t, oper.New(), initial)
}

// source is numbers in no order, the same ones each time.
type source uint64

// next answers a number from 0 to n - 1.
func (s *source) next(n int) int {
	*s = *s*6364136223846793005 + 1442695040888963407
	return int(uint64(*s)>>33) % n
}

// model answers what Set is meant to answer, and the operators that are there then.
func model(l []api.Op, o api.Op) ([]api.Op, api.Errno) {
	_, is := find(l, o.Name, prefix(o.Type))
	switch {
	case o.Prec < 0 || o.Prec > 1200 || !slices.Contains(types, o.Type):
		return l, api.ErrArg
	case slices.Contains([]string{",", "[]", "A"}, o.Name):
		return l, api.ErrOp
	case o.Prec == 0 && !is:
		return l, api.ErrNone
	case o.Prec == 0:
		return without(l, o.Name, prefix(o.Type)), api.OK
	case !is && len(l) == 64:
		return l, api.ErrFull
	}
	return with(l, o), api.OK
}

// P9.1, P9.2, P9.3: many calls in any order, on tables and forks of them: what was set is told, all others stay.
func TestAnyCalls(t *testing.T) {
	s := source(9)
	for range 20 {
		tables := []*oper.Table{oper.New()}
		lists := [][]api.Op{slices.Clone(initial)}
		for range 400 {
			n := s.next(len(tables))
			if s.next(60) == 0 && len(tables) < 4 {
				tables = append(tables, tables[n].Fork())
				lists = append(lists, lists[n])
				continue
			}
			name := string(rune('a' + s.next(26)))
			if s.next(3) == 0 {
				name = []string{",", "[]", "A", "is", "-", "+", ":-"}[s.next(7)]
			}
			o := api.Op{Prec: s.next(1210) - 4, Type: s.next(7), Name: name}
			if s.next(4) == 0 {
				o.Prec = 0
			}
			l, e := model(lists[n], o)
			sets(t, tables[n], o, e)
			lists[n] = l
		}
		for n, table := range tables {
			holds(t, table, lists[n])
		}
	}
}
