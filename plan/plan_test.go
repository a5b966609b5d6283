package plan_test

import (
	"fmt"
	"reflect"
	"slices"
	"strconv"
	"strings"
	"testing"

	"elenchus/api"
	"elenchus/clause"
	"elenchus/oper"
	"elenchus/parse"
	"elenchus/plan"
)

// The terms of these tests are laid by hand, or read from texts.

func v(n int) api.Term    { return api.Term{Kind: api.KindVar, N: n} }
func i(n int) api.Term    { return api.Term{Kind: api.KindInt, N: n} }
func a(s string) api.Term { return api.Term{Kind: api.KindAtom, S: s} }
func c(s string, l ...api.Term) api.Term {
	return api.Term{Kind: api.KindComp, S: s, L: l}
}

// goals of the four kinds.

func call(t api.Term) api.Goal { return api.Goal{Kind: api.GoalCall, Term: t} }
func body(t api.Term) api.Goal { return api.Goal{Kind: api.GoalBody, Term: t} }
func called(n int) api.Goal    { return api.Goal{Kind: api.GoalVar, Term: v(n)} }
func cut() api.Goal            { return api.Goal{Kind: api.GoalCut, Term: a("!")} }

// of makes a clause of a head and goals.
func of(head api.Term, goals ...api.Goal) api.Clause {
	return api.Clause{Head: head, Goals: goals}
}

// read answers the clause of a text: its variables are 0, 1, .. in the order in which they come.
func read(t *testing.T, s string) api.Clause {
	t.Helper()
	r, e := parse.One(s, oper.New())
	if e != api.OK {
		t.Fatal(s, e)
	}
	whole, _, ok := clause.From(r.Term)
	if !ok {
		t.Fatal(s)
	}
	return whole
}

// told answers a plan as a text.
func told(p api.Plan) string {
	s := ""
	if p.Env {
		s = "env"
	}
	return s + list(p.Slots) + strconv.Itoa(p.Level) + list(p.Live)
}

// list answers numbers as a text.
func list(l []int) string {
	var words []string
	for _, n := range l {
		words = append(words, strconv.Itoa(n))
	}
	return "[" + strings.Join(words, " ") + "]"
}

// nested answers a term that many levels above the inner one.
func nested(levels int, inner api.Term) api.Term {
	for range levels {
		inner = c("s", inner)
	}
	return inner
}

// shared answers a term of 2^(levels+1) - 1 parts, all lists of one level being the same one.
func shared(levels int, leaf api.Term) api.Term {
	for range levels {
		leaf = c("d", leaf, leaf)
	}
	return leaf
}

// endless answers a term that has itself as its argument.
func endless() api.Term {
	l := make([]api.Term, 1)
	l[0] = c("e", l...)
	l[0].L = l
	return l[0]
}

// vars answers a compound whose parts are those variables and other compounds.
func vars(from, to int) api.Term {
	t := a("end")
	for ; from < to; from++ {
		t = c("v", v(from), t)
	}
	return t
}

// P15.1: the slots, the level's, and how many live behind each call.
func TestOf(t *testing.T) {
	for s, want := range map[string]string{
		"a":                "[]0[]",
		"p(X, X)":          "[]0[]",
		"a :- b":           "[]0[0]",
		"p(X) :- q(X)":     "[]0[0]",
		"a :- X":           "[]0[0]",
		"a :- !":           "[]0[]",
		"a :- !, !":        "[]0[]",
		"p(X) :- !, q(X)":  "[]0[0]",
		"a :- b, c":        "env[]0[0 0]",
		"a :- b, !, c":     "env[-1]1[1 0]",
		"a :- !, b, c":     "env[]0[0 0]",
		"a :- b, !":        "env[-1]1[1]",
		"a :- b, c, !":     "env[-1]1[1 1]",
		"a :- b, !, c, !":  "env[-1]1[1 1]",
		"a :- (b ; c)":     "env[-1]1[0]",
		"a :- (b -> c)":    "env[-1]1[0]",
		"a :- \\+ b":       "env[-1]1[0]",
		"a :- b, (c ; d)":  "env[-1]1[1 0]",
		"a :- (b ; c), d":  "env[-1]1[0 0]",
		"a :- call(b)":     "[]0[0]",
		"a :- (X ; Y), X":  "env[0 -1]2[1 0]",
		"p(X) :- (X ; Y)":  "env[-1]1[0]",
		"p(X) :- q, (X;b)": "env[-1 0]1[2 0]",

		"p(X, Y) :- q(X, Z), r(Z, Y), s(Y)":          "env[1 2]0[2 1 0]",
		"p(X, Y, Z) :- q(X), r(Z), s(Y)":             "env[1 2]0[2 1 0]",
		"p(A, B, C) :- q, r(C, A, B)":                "env[0 1 2]0[3 0]",
		"p(A, B, C) :- q, r(C), s(A), t(B)":          "env[1 0 2]0[3 2 1 0]",
		"p(A, B) :- q(C), r(D, C), s(D, A), t(B)":    "env[1 0 3 2]0[4 3 1 0]",
		"p(A) :- q, r(A), !, s(A)":                   "env[-1 0]1[2 2 0]",
		"p(A, B) :- q, !, r(A), s(B)":                "env[1 -1 0]2[3 1 0]",
		"p(A, B) :- q(A), r(A), !, s(B)":             "env[-1 1 0]1[3 2 0]",
		"p(X) :- q, X":                               "env[0]0[1 0]",
		"p(X) :- X, X":                               "env[0]0[1 0]",
		"a :- X, Y, X, Y":                            "env[1 0]0[2 2 1 0]",
		"p(X) :- !, q(X), r(X)":                      "env[0]0[1 0]",
		"p(f(g(X), [Y|Z])) :- q(Y), r([a, h(Z)])":    "env[2]0[1 0]",
		"a :- p(X), q(X, Y), r(Y, Z), s(Z)":          "env[2 1 0]0[3 2 1 0]",
		"p(X) :- q(Y), !, (r(Z) ; s), t(Z), u(Y, X)": "env[0 1 2 -1]4[4 3 2 0]",
	} {
		p, e := plan.Of(read(t, s))
		if got := told(p); e != api.OK || got != want {
			t.Error(s, "is", got, e, "not", want)
		}
	}
}

// P15.1: the variables' numbers are as they are, whatever they are, and wherever they stand.
func TestOfByHand(t *testing.T) {
	const most = api.MaxVar - 1
	for _, l := range []struct {
		name string
		c    api.Clause
		want string
	}{
		{"great numbers", of(c("p", v(most), v(7)), call(a("q")), call(c("r", v(7), v(most)))), fmt.Sprintf("env[7 %d]0[2 0]", most)},
		{"as numbers rise, not as they come", of(c("p", v(9), v(10), v(2)), call(a("q")), call(c("r", v(10), v(9), v(2)))), "env[2 9 10]0[3 0]"},
		{"a cut's variable", of(c("p", v(3)), call(a("q")), api.Goal{Kind: api.GoalCut, Term: v(3)}), "env[-1 3]1[2]"},
		{"a cut's own variable", of(a("p"), call(a("q")), api.Goal{Kind: api.GoalCut, Term: v(3)}, api.Goal{Kind: api.GoalCut, Term: v(3)}), "env[-1]1[1]"},
		{"goals of other terms", of(c("p", v(0)), call(i(3)), call(v(0)), api.Goal{Kind: api.GoalVar, Term: a("b")}), "env[0]0[1 0 0]"},
		{"a body of an atom", of(a("p"), body(a("b"))), "env[-1]1[0]"},
		{"however many variables it says", api.Clause{Head: c("p", v(0)), Goals: []api.Goal{call(a("q")), called(0)}, Vars: -5}, "env[0]0[1 0]"},
		{"64 goals", of(a("p"), many(64, call(a("q")))...), "env[]0[" + strings.Repeat("0 ", 63) + "0]"},
		{"64 cuts", of(a("p"), many(64, cut())...), "[]0[]"},
		{"64 slots", of(vars(0, 64), call(a("q")), call(vars(0, 64))), "env" + list(upTo(64)) + "0[64 0]"},
		{"64 slots, one the level's", of(vars(1, 64), call(a("q")), cut(), call(vars(1, 64))), "env" + list(append([]int{-1}, upTo(64)[1:]...)) + "1[64 0]"},
		{"a name without bytes", of(a("")), "[]0[]"},
		{"200 levels", of(nested(199, v(1)), call(nested(199, v(2))), called(1)), "env[1]0[1 0]"},
	} {
		p, e := plan.Of(l.c)
		if got := told(p); e != api.OK || got != l.want {
			t.Error(l.name, "is", got, e, "not", l.want)
		}
	}
}

// upTo answers 0, 1, .. below n.
func upTo(n int) []int {
	l := make([]int, n)
	for j := range l {
		l[j] = j
	}
	return l
}

// many answers a goal n times.
func many(n int, g api.Goal) []api.Goal {
	l := make([]api.Goal, n)
	for j := range l {
		l[j] = g
	}
	return l
}

// refused are clauses that Of refuses, each with all that it says then.
func refused() map[string]struct {
	c    api.Clause
	want api.Errno
} {
	type row = struct {
		c    api.Clause
		want api.Errno
	}
	wrong := api.Term{}
	tooDeep := nested(200, a("a"))
	kind := func(k int) api.Goal { return api.Goal{Kind: k, Term: a("b")} }
	return map[string]row{
		"nothing":                      {api.Clause{}, api.ErrTerm},
		"a head that is none":          {of(wrong), api.ErrTerm},
		"a head too deep":              {of(tooDeep), api.ErrDepth},
		"a head of 2^201 parts":        {of(shared(200, a("a"))), api.ErrDepth},
		"an endless head":              {of(endless()), api.ErrDepth},
		"a goal that is none":          {of(a("p"), call(a("b")), call(wrong)), api.ErrTerm},
		"a cut that is none":           {of(a("p"), api.Goal{Kind: api.GoalCut}), api.ErrTerm},
		"a goal too deep":              {of(a("p"), body(tooDeep)), api.ErrDepth},
		"an endless goal":              {of(a("p"), call(endless())), api.ErrDepth},
		"the head ahead of goals":      {of(tooDeep, call(wrong)), api.ErrDepth},
		"a goal ahead of another":      {of(a("p"), call(tooDeep), call(wrong)), api.ErrDepth},
		"a goal ahead of the head's":   {of(v(0), call(wrong)), api.ErrTerm},
		"a goal ahead of kinds":        {of(a("p"), kind(0), call(tooDeep)), api.ErrDepth},
		"a goal ahead of how many":     {of(a("p"), append(many(65, cut()), call(tooDeep))...), api.ErrDepth},
		"a variable as head":           {of(v(0)), api.ErrArg},
		"an integer as head":           {of(i(0)), api.ErrArg},
		"an integer, and goals":        {of(i(0), call(a("b"))), api.ErrArg},
		"kind 0":                       {of(a("p"), kind(0)), api.ErrArg},
		"kind 5":                       {of(a("p"), kind(5)), api.ErrArg},
		"kind -1":                      {of(a("p"), call(a("b")), kind(-1)), api.ErrArg},
		"65 goals":                     {of(a("p"), many(65, call(a("q")))...), api.ErrArg},
		"65 cuts":                      {of(a("p"), many(65, cut())...), api.ErrArg},
		"70000 goals":                  {of(a("p"), many(70000, cut())...), api.ErrArg},
		"a variable, and 65 slots":     {of(v(0), call(vars(0, 65)), call(vars(0, 65))), api.ErrArg},
		"kind 5, and 65 slots":         {of(vars(0, 65), kind(5), call(vars(0, 65))), api.ErrArg},
		"65 goals, and 65 slots":       {of(vars(0, 65), append(many(64, call(a("q"))), call(vars(0, 65)))...), api.ErrArg},
		"variables beyond the numbers": {of(a("p"), called(api.MaxVar)), api.ErrTerm},
	}
}

// P15.1, P15.2: what is refused, in order; of that the others answer -1, nothing, 0.
func TestRefused(t *testing.T) {
	for name, l := range refused() {
		p, e := plan.Of(l.c)
		if e != l.want || !reflect.DeepEqual(p, api.Plan{}) {
			t.Error(name, "is", told(p), e, "not", l.want)
		}
		if n := plan.Chunk(l.c, 0); n != -1 {
			t.Error(name, "has the chunk", n)
		}
		if vars := plan.Permanent(l.c); len(vars) > 0 {
			t.Error(name, "has the variables", vars)
		}
		if n := plan.Calls(l.c); n != 0 {
			t.Error(name, "has the calls", n)
		}
	}
}

// P15.1, P15.2: of what is too much, slots or a term's parts, the others answer as of other clauses.
func TestTooMuch(t *testing.T) {
	tooDeep, tooMany := nested(200, a("a")), shared(12, v(3))
	for name, l := range map[string]struct {
		c         api.Clause
		permanent []int
		calls     int
	}{
		"65 variables":             {of(vars(0, 65), call(a("q")), call(vars(0, 65))), upTo(65), 2},
		"64 variables and a level": {of(vars(0, 64), call(a("q")), cut(), call(vars(0, 64))), upTo(64), 2},
		"64 variables and a body":  {of(vars(0, 64), body(a("q")), call(vars(0, 64))), upTo(64), 2},
		"1000 variables":           {of(parts(1000), call(a("q")), call(a("r")), call(parts(1000))), upTo(1000), 3},
		"a head of too many parts": {of(tooMany, call(a("q")), called(1), call(c("r", v(1)))), []int{1}, 3},
		"a goal of too many parts": {of(c("p", v(3), v(4)), body(a("q")), call(tooMany), cut(), called(4)), []int{4}, 3},
		"a goal ahead of another":  {of(a("p"), call(tooMany), cut(), call(tooDeep)), nil, 2},
		"a goal ahead of kinds":    {of(a("p"), call(tooMany), api.Goal{Kind: 5, Term: v(0)}), nil, 2},
		"a goal ahead of how many": {of(a("p"), append(many(70000, called(7)), call(tooMany))...), []int{7}, 70001},
	} {
		p, e := plan.Of(l.c)
		if e != api.ErrMany || !reflect.DeepEqual(p, api.Plan{}) {
			t.Error(name, told(p), e)
		}
		if got := plan.Permanent(l.c); !slices.Equal(got, l.permanent) {
			t.Error(name, got)
		}
		if got := plan.Calls(l.c); got != l.calls {
			t.Error(name, got)
		}
		last := len(l.c.Goals) - 1
		if got := plan.Chunk(l.c, last); got != l.calls-1 {
			t.Error(name, got)
		}
	}
}

// parts answers a flat compound of n variables, in compounds of ten.
func parts(n int) api.Term {
	t := a("end")
	for at := 0; at < n; at += 10 {
		l := []api.Term{t}
		for j := at; j < at+10; j++ {
			l = append(l, v(j))
		}
		t = c("l", l...)
	}
	return t
}

// P15.2: the chunk of each goal.
func TestChunk(t *testing.T) {
	for s, want := range map[string][]int{
		"a":                              nil,
		"a :- b":                         {0},
		"a :- !":                         {0},
		"a :- !, b, !, !, c, d, !":       {0, 0, 1, 1, 1, 2, 3},
		"a :- (b ; c), X, \\+ d, Y":      {0, 1, 2, 3},
		"a :- b, !, c":                   {0, 1, 1},
		"p(X) :- q(X), r(X), !, (X ; Y)": {0, 1, 2, 2},
	} {
		whole := read(t, s)
		var got []int
		for goal := range whole.Goals {
			got = append(got, plan.Chunk(whole, goal))
		}
		if !reflect.DeepEqual(got, want) {
			t.Error(s, got, want)
		}
		for _, goal := range []int{-1, len(want), len(want) + 1, -1 << 63, 1<<63 - 1} {
			if n := plan.Chunk(whole, goal); n != -1 {
				t.Error(s, "has a goal", goal, "of chunk", n)
			}
		}
	}
	if n := plan.Chunk(of(a("p"), many(64, call(a("q")))...), 63); n != 63 {
		t.Error(n)
	}
}

// P15.2: the permanent variables, rising, and the calls.
func TestPermanentAndCalls(t *testing.T) {
	for s, want := range map[string]struct {
		permanent []int
		calls     int
	}{
		"a":                                 {nil, 0},
		"p(X, X)":                           {nil, 0},
		"p(X) :- q(X)":                      {nil, 1},
		"p(X) :- !":                         {nil, 0},
		"p(X) :- !, q(X, Y), r(Y)":          {[]int{1}, 2},
		"p(X, Y) :- q(X, Z), r(Z, Y), s(Y)": {[]int{1, 2}, 3},
		"p(A, B, C) :- q, r(C), s(B), t(A)": {[]int{0, 1, 2}, 4},
		"a :- X, Y, Y, X":                   {[]int{0, 1}, 4},
		"a :- b, !, c, (d ; e), !":          {nil, 3},
		"a :- (X -> Y), \\+ f(Y), f(X)":     {[]int{0, 1}, 3},
	} {
		whole := read(t, s)
		if got := plan.Permanent(whole); !slices.Equal(got, want.permanent) {
			t.Error(s, got, want.permanent)
		}
		if got := plan.Calls(whole); got != want.calls {
			t.Error(s, got, want.calls)
		}
	}
}

// Rule R3: what is handed in is not changed, and answers are new memory.
func TestOwnMemory(t *testing.T) {
	whole := read(t, "p(X, Y) :- q(X, Z), !, r(Z, Y), (s(Y) ; X)")
	room := append(slices.Clone(whole.Goals), cut(), cut())
	whole.Goals = room[:len(whole.Goals)]
	before := fmt.Sprint(whole, room)
	first, _ := plan.Of(whole)
	want := told(first)
	permanent := plan.Permanent(whole)
	for _, l := range [][]int{first.Slots, first.Live, permanent} {
		for j := range l[:cap(l)] {
			l[:cap(l)][j] = 99
		}
	}
	second, _ := plan.Of(whole)
	if got := told(second); got != want {
		t.Error(got, "is not", want)
	}
	if got := plan.Permanent(whole); !slices.Equal(got, []int{0, 1, 2}) {
		t.Error(got)
	}
	if plan.Calls(whole); fmt.Sprint(whole, room) != before {
		t.Error("what was handed in has changed")
	}
}
