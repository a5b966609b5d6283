package emit_test

import (
	"fmt"
	"slices"
	"strings"
	"testing"

	"elenchus/api"
	"elenchus/clause"
	"elenchus/emit"
	"elenchus/instr"
	"elenchus/oper"
	"elenchus/parse"
	"elenchus/plan"
)

// The terms of these tests are laid by hand, or read from texts.

func v(n int) api.Term    { return api.Term{Kind: api.KindVar, N: n} }
func i(n int) api.Term    { return api.Term{Kind: api.KindInt, N: n} }
func a(s string) api.Term { return api.Term{Kind: api.KindAtom, S: s} }
func c(s string, l ...api.Term) api.Term {
	return api.Term{Kind: api.KindComp, S: s, L: l}
}

// goals of the four kinds.

func call(t api.Term) api.Goal { return api.Goal{Kind: api.GoalCall, Term: t} }
func body(t api.Term) api.Goal { return api.Goal{Kind: api.GoalBody, Term: t} }
func called(n int) api.Goal    { return api.Goal{Kind: api.GoalVar, Term: v(n)} }
func cut() api.Goal            { return api.Goal{Kind: api.GoalCut, Term: a("!")} }

// of makes a clause of a head and goals.
func of(head api.Term, goals ...api.Goal) api.Clause {
	return api.Clause{Head: head, Goals: goals}
}

// many answers a thing n times.
func many[T any](n int, x T) []T {
	l := make([]T, n)
	for j := range l {
		l[j] = x
	}
	return l
}

// read answers the clause of a text: its variables are 0, 1, .. in the order in which they come.
func read(t *testing.T, s string) api.Clause {
	t.Helper()
	r, e := parse.One(s, oper.New())
	if e != api.OK {
		t.Fatal(s, e)
	}
	whole, _, ok := clause.From(r.Term)
	if !ok {
		t.Fatal(s)
	}
	return whole
}

// told answers code as a text.
func told(l []api.Instr) string {
	var lines []string
	for _, i := range l {
		lines = append(lines, instr.Text(i))
	}
	return strings.Join(lines, "; ")
}

// compiled answers the code of a clause that is not refused.
func compiled(t *testing.T, whole api.Clause) []api.Instr {
	t.Helper()
	l, e := emit.Compile(whole)
	if e != api.OK {
		t.Fatal(whole, e)
	}
	if n, e := instr.Check(l, len(whole.Head.L)); n != len(l) || e != api.OK {
		t.Fatal(whole, told(l), "is wrong at", n, e)
	}
	return l
}

// codes are clauses, and their code.
func codes() map[string]string {
	return map[string]string{
		"p(X, f(Y)) :- q(Y)": "get_var X3 A1; get_str f/1 A2; uni_var X4; put_val X4 A1; exec q/1",

		// Facts.
		"a":                               "proceed",
		"p(a)":                            "get_atom a A1; proceed",
		"p(-7)":                           "get_int -7 A1; proceed",
		"p('A b', [], 0)":                 "get_atom 'A b' A1; get_atom [] A2; get_int 0 A3; proceed",
		"p(X)":                            "get_var X2 A1; proceed",
		"p(X, X)":                         "get_var X3 A1; get_val X3 A2; proceed",
		"p(X, Y, X, Y)":                   "get_var X5 A1; get_var X6 A2; get_val X5 A3; get_val X6 A4; proceed",
		"p(f(X, X, a, 1))":                "get_str f/4 A1; uni_var X2; uni_val X2; uni_atom a; uni_int 1; proceed",
		"p(X, f(X))":                      "get_var X3 A1; get_str f/1 A2; uni_val X3; proceed",
		"p(f(X), X)":                      "get_str f/1 A1; uni_var X3; get_val X3 A2; proceed",
		"p([X|Y])":                        "get_str '.'/2 A1; uni_var X2; uni_var X3; proceed",
		"p(a, f(g), b)":                   "get_atom a A1; get_str f/1 A2; uni_atom g; get_atom b A3; proceed",
		"p(f(g(a), X))":                   "get_str f/2 A1; uni_var X2; uni_var X3; get_str g/1 A2; uni_atom a; proceed",
		"p(f(X, g(a)))":                   "get_str f/2 A1; uni_var X2; uni_var X3; get_str g/1 A3; uni_atom a; proceed",
		"p(f(g(X)), X)":                   "get_str f/1 A1; uni_var X3; get_str g/1 A3; uni_var X4; get_val X4 A2; proceed",
		"p(f(g(h(X), k), m(X)), n(X))":    "get_str f/2 A1; uni_var X3; uni_var X4; get_str g/2 A3; uni_var X5; uni_atom k; get_str m/1 A4; uni_var X6; get_str h/1 A5; uni_val X6; get_str n/1 A2; uni_val X6; proceed",
		"p(f(g(h(1)), k(m(2))), f(g(3)))": "get_str f/2 A1; uni_var X3; uni_var X4; get_str g/1 A3; uni_var X5; get_str k/1 A4; uni_var X6; get_str h/1 A5; uni_int 1; get_str m/1 A6; uni_int 2; get_str f/1 A2; uni_var X7; get_str g/1 A7; uni_int 3; proceed",

		// One call.
		"a :- b":                   "exec b/0",
		"p(X) :- q(X)":             "get_var X2 A1; put_val X2 A1; exec q/1",
		"p(X) :- q(a, X)":          "get_var X3 A1; put_atom a A1; put_val X3 A2; exec q/2",
		"p(X) :- q(Y, Y, X)":       "get_var X4 A1; put_var X5 A1; put_val X5 A2; put_val X4 A3; exec q/3",
		"a :- q(1, -1)":            "put_int 1 A1; put_int -1 A2; exec q/2",
		"a :- q(f(X, X, a, 2))":    "put_str f/4 A1; set_var X2; set_val X2; set_atom a; set_int 2; exec q/1",
		"a :- q(f(g(X)))":          "put_str g/1 A2; set_var X3; put_str f/1 A1; set_val X2; exec q/1",
		"a :- q(f(X, g(X)), X)":    "put_str g/1 A3; set_var X4; put_str f/2 A1; set_val X4; set_val X3; put_val X4 A2; exec q/2",
		"a :- q(X, f(g(Y), Z))":    "put_var X3 A1; put_str g/1 A4; set_var X5; put_str f/2 A2; set_val X4; set_var X6; exec q/2",
		"a :- q(f(g(h(X)), k(X)))": "put_str h/1 A3; set_var X4; put_str g/1 A2; set_val X3; put_str k/1 A5; set_val X4; put_str f/2 A1; set_val X2; set_val X5; exec q/1",
		"a :- call(b, c)":          "put_atom b A1; put_atom c A2; exec call/2",
		"a :- X = X":               "put_var X3 A1; put_val X3 A2; exec =/2",

		// Cuts.
		"a :- !":             "neck; proceed",
		"a :- !, !":          "neck; neck; proceed",
		"p(X) :- !, q(X)":    "get_var X2 A1; neck; put_val X2 A1; exec q/1",
		"a :- b, !":          "alloc 1; level Y1; call b/0 1; cut Y1; dealloc; proceed",
		"a :- !, b, !, c":    "alloc 1; level Y1; neck; call b/0 1; cut Y1; dealloc; exec c/0",
		"a :- b, !, !, c":    "alloc 1; level Y1; call b/0 1; cut Y1; cut Y1; dealloc; exec c/0",
		"p(X) :- q, !, X":    "alloc 2; level Y1; get_var Y2 A1; call q/0 2; cut Y1; put_val Y2 A1; here X2; dealloc; goal",
		"p(X) :- !, q, X":    "alloc 1; get_var Y1 A1; neck; call q/0 1; put_val Y1 A1; here X2; dealloc; goal",
		"p(X) :- X, b, !":    "alloc 1; level Y1; get_var X3 A1; put_val X3 A1; here X2; body 1; call b/0 1; cut Y1; dealloc; proceed",
		"a :- (b ; c), !":    "alloc 1; level Y1; put_str ;/2 A1; set_atom b; set_atom c; put_val Y1 A2; body 1; cut Y1; dealloc; proceed",
		"a :- b, c, !, d":    "alloc 1; level Y1; call b/0 1; call c/0 1; cut Y1; dealloc; exec d/0",
		"p(X) :- q(X), !":    "alloc 1; level Y1; get_var X2 A1; put_val X2 A1; call q/1 1; cut Y1; dealloc; proceed",
		"p(_) :- q, r, !, s": "alloc 1; level Y1; get_var X2 A1; call q/0 1; call r/0 1; cut Y1; dealloc; exec s/0",

		// Variables and control constructs that are called.
		"a :- X":                 "put_var X3 A1; here X2; goal",
		"p(X) :- X":              "get_var X3 A1; put_val X3 A1; here X2; goal",
		"a :- X, X":              "alloc 1; put_var Y1 A1; here X2; body 1; put_val Y1 A1; here X2; dealloc; goal",
		"a :- X, Y":              "alloc 0; put_var X3 A1; here X2; body 0; put_var X4 A1; here X2; dealloc; goal",
		"p(a, b, c) :- X":        "get_atom a A1; get_atom b A2; get_atom c A3; put_var X4 A1; here X2; goal",
		"a :- (b ; c)":           "alloc 1; level Y1; put_str ;/2 A1; set_atom b; set_atom c; put_val Y1 A2; dealloc; goal",
		"p(X) :- \\+ X":          "alloc 1; level Y1; get_var X3 A1; put_str \\+/1 A1; set_val X3; put_val Y1 A2; dealloc; goal",
		"p(X) :- (q(X) -> r(X))": "alloc 1; level Y1; get_var X3 A1; put_str q/1 A4; set_val X3; put_str r/1 A5; set_val X3; put_str ->/2 A1; set_val X4; set_val X5; put_val Y1 A2; dealloc; goal",
		"a :- (b ; c), d":        "alloc 1; level Y1; put_str ;/2 A1; set_atom b; set_atom c; put_val Y1 A2; body 0; dealloc; exec d/0",
		"a :- b, (X ; c), X":     "alloc 2; level Y2; call b/0 2; put_str ;/2 A1; set_var Y1; set_atom c; put_val Y2 A2; body 1; put_val Y1 A1; here X2; dealloc; goal",

		// Environments.
		"a :- b, c":                         "alloc 0; call b/0 0; dealloc; exec c/0",
		"a :- b, c, d":                      "alloc 0; call b/0 0; call c/0 0; dealloc; exec d/0",
		"p(X) :- q, r(X)":                   "alloc 1; get_var Y1 A1; call q/0 1; put_val Y1 A1; dealloc; exec r/1",
		"p(X, Y) :- q(X, Z), r(Z, Y), s(Y)": "alloc 2; get_var X3 A1; get_var Y1 A2; put_val X3 A1; put_var Y2 A2; call q/2 2; put_val Y2 A1; put_val Y1 A2; call r/2 1; put_val Y1 A1; dealloc; exec s/1",
		"a :- q(X), r(X, Y), s(Y), t":       "alloc 2; put_var Y2 A1; call q/1 2; put_val Y2 A1; put_var Y1 A2; call r/2 1; put_val Y1 A1; call s/1 0; dealloc; exec t/0",
		"a :- q(X, Y), r(Y), s(Z, Z)":       "alloc 1; put_var X3 A1; put_var Y1 A2; call q/2 1; put_val Y1 A1; call r/1 0; put_var X4 A1; put_val X4 A2; dealloc; exec s/2",
		"p(f(X)) :- q(g(X)), r(h(X, Y), Y)": "alloc 1; get_str f/1 A1; uni_var Y1; put_str g/1 A1; set_val Y1; call q/1 1; put_str h/2 A1; set_val Y1; set_var X3; put_val X3 A2; dealloc; exec r/2",
	}
}

// P17.1: the code.
func TestCompile(t *testing.T) {
	for s, want := range codes() {
		if got := told(compiled(t, read(t, s))); got != want {
			t.Errorf("%s is\n%s, not\n%s", s, got, want)
		}
	}
}

// P17.1: of clauses that no text has: variables by whatever numbers; goals of other terms than theirs.
func TestCompileByHand(t *testing.T) {
	const most = api.MaxVar - 1
	goal := func(kind int, t api.Term) api.Goal { return api.Goal{Kind: kind, Term: t} }
	for _, l := range []struct {
		c    api.Clause
		want string
	}{
		{of(c("p", v(most), v(3), v(most))), "get_var X4 A1; get_var X5 A2; get_val X4 A3; proceed"},
		{of(c("p", v(most), v(3)), call(a("q")), call(c("r", v(most), v(3)))), "alloc 2; get_var Y2 A1; get_var Y1 A2; call q/0 2; put_val Y2 A1; put_val Y1 A2; dealloc; exec r/2"},
		{api.Clause{Head: c("p", v(0)), Vars: -3}, "get_var X2 A1; proceed"},
		{of(c("", a("")), call(c("", a("")))), "get_atom '' A1; put_atom '' A1; exec ''/1"},
		{of(a("p"), call(a("!"))), "exec !/0"},
		{of(a("p"), call(a("true"))), "exec true/0"},
		{of(c("p", v(0)), call(c(";", v(0), v(0)))), "get_var X3 A1; put_val X3 A1; put_val X3 A2; exec ;/2"},
		{of(a("p"), body(a("b"))), "alloc 1; level Y1; put_atom b A1; put_val Y1 A2; dealloc; goal"},
		{of(a("p"), body(v(5))), "alloc 1; level Y1; put_var X3 A1; put_val Y1 A2; dealloc; goal"},
		{of(a("p"), body(i(5)), cut()), "alloc 1; level Y1; put_int 5 A1; put_val Y1 A2; body 1; cut Y1; dealloc; proceed"},
		{of(a("p"), goal(api.GoalVar, c("f", c("g", v(1))))), "put_str g/1 A3; set_var X4; put_str f/1 A1; set_val X3; here X2; goal"},
		{of(c("p", v(0)), goal(api.GoalCut, c("f", v(0), v(1), v(1)))), "get_var X2 A1; neck; proceed"},
		{of(c("p", v(0)), call(a("q")), goal(api.GoalCut, c("f", v(0), v(1)))), "alloc 2; level Y1; get_var Y2 A1; call q/0 2; cut Y1; dealloc; proceed"},
	} {
		if got := told(compiled(t, l.c)); got != l.want {
			t.Errorf("%v is\n%s, not\n%s", l.c, got, l.want)
		}
	}
}

// nested answers a term that many levels above the inner one.
func nested(levels int, inner api.Term) api.Term {
	for range levels {
		inner = c("s", inner)
	}
	return inner
}

// shared answers a term of 2^(levels+1) - 1 parts, all lists of one level being the same one.
func shared(levels int, leaf api.Term) api.Term {
	for range levels {
		leaf = c("d", leaf, leaf)
	}
	return leaf
}

// endless answers a term that has itself as its argument.
func endless() api.Term {
	l := make([]api.Term, 1)
	l[0] = c("e", l...)
	l[0].L = l
	return l[0]
}

// vars answers a compound of those variables, a list of them.
func vars(from, to int) api.Term {
	t := a("end")
	for ; from < to; from++ {
		t = c("v", v(from), t)
	}
	return t
}

// P17.1: what plan.Of refuses is refused; Base is 0 of it, but of what is too much.
func TestRefused(t *testing.T) {
	tooMany := shared(12, a("a"))
	for name, l := range map[string]struct {
		c    api.Clause
		want api.Errno
		base int
	}{
		"nothing":                     {api.Clause{}, api.ErrTerm, 0},
		"a head too deep":             {of(c("p", i(0), nested(199, a("a")))), api.ErrDepth, 0},
		"an endless head":             {of(endless()), api.ErrDepth, 0},
		"a head of 17 arguments":      {of(c("p", many(17, i(0))...)), api.ErrTerm, 0},
		"a head without arguments":    {of(c("p")), api.ErrTerm, 0},
		"a goal that is none":         {of(c("p", i(0)), call(api.Term{})), api.ErrTerm, 0},
		"an endless goal":             {of(c("p", i(0)), call(c("p", endless()))), api.ErrDepth, 0},
		"a variable as head":          {of(v(0), call(c("p", i(0)))), api.ErrArg, 0},
		"an integer as head":          {of(i(0), call(c("p", i(0)))), api.ErrArg, 0},
		"kind 0":                      {of(c("p", i(0)), api.Goal{Term: a("a")}), api.ErrArg, 0},
		"kind 5":                      {of(c("p", i(0)), api.Goal{Kind: 5, Term: a("a")}), api.ErrArg, 0},
		"65 goals":                    {of(c("p", i(0)), many(65, cut())...), api.ErrArg, 0},
		"65 slots":                    {of(c("p", vars(0, 65), i(0), i(1)), call(a("q")), call(vars(0, 65))), api.ErrMany, 3},
		"64 variables, and a level":   {of(vars(0, 64), call(a("q")), cut(), call(c("q", i(1), i(2), i(3), vars(0, 64)))), api.ErrMany, 4},
		"a head of too many parts":    {of(c("p", a("a"), tooMany, a("b")), called(0)), api.ErrMany, 3},
		"a goal of too many parts":    {of(c("p", a("a")), call(c("q", a("a"), tooMany))), api.ErrMany, 2},
		"a body of too many parts":    {of(a("p"), body(tooMany)), api.ErrMany, 2},
		"too many parts, and endless": {of(c("p", tooMany), call(endless()), call(c("q", endless(), endless(), endless()))), api.ErrMany, 3},
	} {
		if _, e := plan.Of(l.c); e != l.want {
			t.Error(name, "is refused with", e)
		}
		if code, e := emit.Compile(l.c); e != l.want || len(code) > 0 {
			t.Error(name, "is", told(code), e, "not", l.want)
		}
		if n := emit.Base(l.c); n != l.base {
			t.Error(name, "has the base", n, "not", l.base)
		}
	}
}

// P17.1: the greatest arity.
func TestBase(t *testing.T) {
	for s, want := range map[string]int{
		"a":                               0,
		"p(X)":                            1,
		"p(f(1, 2, 3), 4)":                2,
		"a :- b":                          0,
		"a :- b(1, 2, 3), c(1), d(1, 2)":  3,
		"p(1, 2) :- b(1)":                 2,
		"p(1) :- b(f(1, 2, 3), 4)":        2,
		"a :- !":                          0,
		"a :- X":                          2,
		"p(1) :- X, !":                    2,
		"p(1, 2, 3) :- X":                 3,
		"a :- (b(1, 2, 3) ; c)":           2,
		"a :- \\+ b(1, 2, 3)":             2,
		"p(1, 2, 3, 4) :- (b -> c), d(1)": 4,
		"a :- !, b(1), X, c(1, 2, 3, 4)":  4,
	} {
		if got := emit.Base(read(t, s)); got != want {
			t.Error(s, got, want)
		}
	}
	sixteen := c("p", many(16, i(0))...)
	for _, l := range []struct {
		c    api.Clause
		want int
	}{
		{of(sixteen), 16},
		{of(a("p"), call(sixteen)), 16},
		{of(a("p"), body(sixteen)), 2},
		{of(a("p"), api.Goal{Kind: api.GoalVar, Term: sixteen}), 2},
		{of(a("p"), api.Goal{Kind: api.GoalCut, Term: sixteen}), 0},
		{of(a("p"), call(i(7)), call(v(7))), 0},
		{of(c("p", c("f", vars(0, 130)), c("f", vars(0, 130)))), 2},
	} {
		if got := emit.Base(l.c); got != l.want {
			t.Error(l.c, got, l.want)
		}
	}
}

// P17.1: temporary registers up to MaxRegs, and no further.
func TestRegisters(t *testing.T) {
	const most = api.MaxRegs
	for _, l := range []struct {
		name string
		c    api.Clause
		fits bool
	}{
		// Of the list of n variables each but the outermost pair has a register, and each variable.
		{"127 variables in the head", of(c("p", vars(0, 127))), true},
		{"127 variables in the head, and one of them behind", of(c("p", vars(0, 127), v(126))), true},
		{"127 variables in the head, and another one behind", of(c("p", vars(0, 127), v(127))), false},
		{"127 variables in the head, and a compound behind", of(c("p", vars(0, 127), c("f", a("a")))), true},
		{"127 variables in the head, and a variable in it", of(c("p", vars(0, 127), c("f", v(127)))), false},
		{"127 variables in the head, and a compound in it", of(c("p", vars(0, 127), c("f", c("f", a("a"))))), false},
		{"127 variables in the head, and one in a goal", of(c("p", vars(0, 127)), call(c("q", v(127)))), true},
		{"127 variables in the head, and two in a goal", of(c("p", vars(0, 127)), call(c("q", c("f", v(127), v(128))))), false},
		{"128 variables in the head", of(c("p", vars(0, 128))), false},
		{"127 variables in a goal", of(a("p"), call(c("q", vars(0, 127)))), true},
		{"127 variables in a goal, and one of them behind", of(a("p"), call(c("q", vars(0, 127), v(0)))), true},
		{"127 variables in a goal, and another one behind", of(a("p"), call(c("q", vars(0, 127), v(127)))), false},
		{"127 variables in a goal, and a compound in it", of(a("p"), call(c("q", vars(0, 127), c("f", c("f", a("a")))))), false},
		{"128 variables in a goal", of(a("p"), call(c("q", vars(0, 128)))), false},
		{"127 variables in a body", of(a("p"), body(vars(0, 127))), true},
		{"128 variables in a body", of(a("p"), body(vars(0, 128))), false},
		{"compounds of many goals", of(a("p"), many(63, call(c("q", c("f", c("g", a("a")), c("g", a("a")), c("g", a("a")), c("g", a("a"))))))...), true},
		{"compounds of many goals, and more", of(a("p"), many(64, call(c("q", c("f", c("g", a("a")), c("g", a("a")), c("g", a("a")), c("g", a("a"))))))...), false},
		{"deep", of(c("p", nested(198, a("a")))), true},
		{"deep, in a goal", of(a("p"), call(c("q", nested(198, a("a"))))), true},
		{"deep, twice", of(c("p", nested(198, a("a"))), call(c("q", nested(198, a("a"))))), false},
	} {
		code, e := emit.Compile(l.c)
		if l.fits && e != api.OK || !l.fits && (e != api.ErrMany || len(code) > 0) {
			t.Error(l.name, len(code), e)
		}
		if l.fits {
			compiled(t, l.c)
		}
	}
	// The register that is taken last is the greatest one there is.
	got := compiled(t, of(c("p", vars(0, 127)), call(c("q", v(200)))))
	if last := got[len(got)-2]; last != (api.Instr{Op: api.InsPutVar, V: most, A: 1}) {
		t.Error(instr.Text(last))
	}
}

// flat answers a goal of n compounds of 16 atoms each; 17 n + 1 instructions.
func flat(n int) api.Goal {
	return call(c("q", many(n, c("f", many(16, a("a"))...))...))
}

// P17.1: as many instructions as there may be, and no more.
func TestInstructions(t *testing.T) {
	// 4096 are 15 goals of 16 compounds of 17 instructions, and a call each; and alloc and dealloc; and what is behind these.
	goals := many(14, flat(16))
	goals = append(goals, flat(15))
	for _, more := range []int{0, 1, 2, 3, 4, 5, 6, 7, 8, 9, 10, 11, 12, 13, 14, 15} {
		have := 14*(16*17+1) + (15*17 + 1) + 2
		last := call(c("r", many(more, a("a"))...))
		if more == 0 {
			last = call(a("r"))
		}
		have += more + 1
		rest := api.MaxCode - have
		if rest < 0 {
			t.Fatal(have)
		}
		for _, cuts := range []int{rest - 1, rest, rest + 1} {
			if cuts < 0 || len(goals)+1+cuts > api.MaxGoals {
				continue
			}
			l := append(append(many(cuts, cut()), goals...), last)
			code, e := emit.Compile(of(a("p"), l...))
			if fits := cuts <= rest; fits && (e != api.OK || len(code) != have+cuts) || !fits && (e != api.ErrMany || len(code) > 0) {
				t.Error(more, cuts, len(code), e)
			}
		}
	}
	if code, e := emit.Compile(of(a("p"), many(64, flat(16))...)); e != api.ErrMany || len(code) > 0 {
		t.Error(len(code), e)
	}
}

// P17.2: the texts, each with a line's end; of an instruction that may not be just that.
func TestListing(t *testing.T) {
	for _, l := range []struct {
		code []api.Instr
		want string
	}{
		{nil, ""},
		{[]api.Instr{}, ""},
		{[]api.Instr{{Op: api.InsProceed}}, "proceed\n"},
		{[]api.Instr{{Op: api.InsProceed}, {Op: api.InsProceed}}, "proceed\nproceed\n"},
		{[]api.Instr{{}, {Op: api.InsNeck}, {Op: 31}, {Op: api.InsNeck, A: 1}}, "\nneck\n\n\n"},
		{[]api.Instr{{Op: api.InsPutAtom, S: "a\nb", A: 3}}, "put_atom 'a\\nb' A3\n"},
		{compiled(t, read(t, "p(X, f(Y)) :- q(Y)")), "get_var X3 A1\nget_str f/1 A2\nuni_var X4\nput_val X4 A1\nexec q/1\n"},
	} {
		if got := emit.Listing(l.code); got != l.want {
			t.Errorf("%q is not %q", got, l.want)
		}
	}
	for s, want := range codes() {
		want = strings.ReplaceAll(want, "; ", "\n") + "\n"
		if got := emit.Listing(compiled(t, read(t, s))); got != want {
			t.Errorf("%q is not %q", got, want)
		}
	}
}

// Rule R3: what is handed in is not changed, and answers are new memory.
func TestOwnMemory(t *testing.T) {
	whole := read(t, "p(f(X, g(Y)), 1) :- q(X, h(k(Z))), !, r(Z, Y), (s(Y) ; X), Z")
	room := append(slices.Clone(whole.Goals), cut(), cut())
	whole.Goals = room[:len(whole.Goals)]
	before := fmt.Sprint(whole, room)
	first := compiled(t, whole)
	want := emit.Listing(first)
	code := append(slices.Clone(first), api.Instr{Op: api.InsFail})[:len(first)]
	emit.Listing(code)
	if code[:len(code)+1][len(code)] != (api.Instr{Op: api.InsFail}) || !slices.Equal(code, first) {
		t.Error("the code has changed")
	}
	for j := range first[:cap(first)] {
		first[:cap(first)][j] = api.Instr{Op: api.InsFail}
	}
	if got := emit.Listing(compiled(t, whole)); got != want {
		t.Error(got, "is not", want)
	}
	if emit.Base(whole); fmt.Sprint(whole, room) != before {
		t.Error("what was handed in has changed")
	}
}
