package clause_test

import (
	"reflect"
	"strconv"
	"strings"
	"testing"

	"elenchus/api"
	"elenchus/clause"
	"elenchus/oper"
	"elenchus/parse"
	"elenchus/write"
)

// The terms of these tests are laid by hand, or read from texts.

func v(n int) api.Term    { return api.Term{Kind: api.KindVar, N: n} }
func i(n int) api.Term    { return api.Term{Kind: api.KindInt, N: n} }
func a(s string) api.Term { return api.Term{Kind: api.KindAtom, S: s} }
func c(s string, l ...api.Term) api.Term {
	return api.Term{Kind: api.KindComp, S: s, L: l}
}

// read answers the term of a text.
func read(t *testing.T, s string) api.Term {
	t.Helper()
	r, e := parse.One(s, oper.New())
	if e != api.OK {
		t.Fatal(s, e)
	}
	return r.Term
}

// text writes any value of api.Term, so that just those that are the same have the same text.
func text(t api.Term) string {
	var b strings.Builder
	b.WriteString(strconv.Itoa(t.Kind) + ":" + strconv.Itoa(t.N) + ":" + strconv.Quote(t.S))
	for _, arg := range t.L {
		b.WriteString("(" + text(arg) + ")")
	}
	return b.String()
}

// canon answers the term's canonical text; {} of no term.
func canon(t api.Term) string {
	if reflect.DeepEqual(t, api.Term{}) {
		return "{}"
	}
	s, e := write.Canon(t)
	if e != api.OK {
		return "wrong " + strconv.Itoa(int(e)) + ": " + text(t)
	}
	return s
}

// listed answers the goals as a text: of each its kind and its term.
func listed(goals []api.Goal) string {
	kinds := map[int]string{api.GoalCall: "call ", api.GoalCut: "cut ", api.GoalBody: "body ", api.GoalVar: "var "}
	var l []string
	for _, g := range goals {
		l = append(l, kinds[g.Kind]+canon(g.Term))
	}
	return strings.Join(l, "; ")
}

// nested answers a term that many levels above the inner one.
func nested(levels int, inner api.Term) api.Term {
	for range levels {
		inner = c("s", inner)
	}
	return inner
}

// shared answers a term of 2^(levels+1) - 1 parts, all lists of one level being the same one.
func shared(levels int, leaf api.Term) api.Term {
	for range levels {
		leaf = c("d", leaf, leaf)
	}
	return leaf
}

// endless answers a term that has itself as its second argument.
func endless(name string) api.Term {
	l := make([]api.Term, 2)
	l[0], l[1] = a("a"), c(name, l...)
	l[1].L = l
	return l[1]
}

// args answers n atoms.
func args(n int) []api.Term {
	l := make([]api.Term, n)
	for j := range l {
		l[j] = a("a")
	}
	return l
}

// bad are terms that may not be.
func bad() map[string]api.Term {
	return map[string]api.Term{
		"nothing":                  {},
		"kind 5":                   {Kind: 5},
		"variable -1":              v(-1),
		"variable too great":       v(api.MaxVar),
		"integer too great":        i(api.MaxInt + 1),
		"atom too long":            a(strings.Repeat("a", 65)),
		"atom with an argument":    {Kind: api.KindAtom, S: "a", L: args(1)},
		"compound of no arguments": c("f"),
		"17 arguments":             c("f", args(17)...),
		"201 levels":               nested(200, a("a")),
		"4097 parts":               c("f", shared(11, a("a")), a("a")),
		"8191 parts":               shared(12, a("a")),
		"2^201 parts":              shared(200, a("a")),
		"endless":                  endless("e"),
		"wrong within":             c("f", a("a"), c("g", api.Term{})),
		"a wrong head":             c(":-", api.Term{}, a("a")),
		"a wrong body":             c(":-", v(0), api.Term{}),
		"a wrong goal":             c(":-", i(1), c(",", i(2), api.Term{})),
		"endless goals":            c(":-", a("a"), endless(",")),
	}
}

// P14.1: of all names and arities just those that are listed are built in.
func TestBuiltin(t *testing.T) {
	const list = "true/0 fail/0 !/0 halt/0 nl/0 ,/2 ;/2 ->/2 \\+/1 call/1 call/2 call/3 call/4 catch/3 throw/1 findall/3 =/2 \\=/2 ==/2 \\==/2 @</2 @>/2 @=</2 @>=/2 compare/3 var/1 nonvar/1 atom/1 integer/1 compound/1 functor/3 arg/3 =../2 copy_term/2 is/2 =:=/2 =\\=/2 </2 >/2 =</2 >=/2 assertz/1 asserta/1 retract/1 write/1 atom_length/2 :-/1 :-/2"
	is := map[string]bool{}
	var names []string
	for _, one := range strings.Fields(list) {
		is[one] = true
		names = append(names, one[:strings.LastIndex(one, "/")])
	}
	names = append(names, strings.Fields("false not once ignore forall assert abolish op listing print writeln atom_chars number atomic is_list length append member between succ_or_fail bagof setof halted True CALL . [] {} | - + * / // mod rem error op ?- --> @ =@= #= :")...)
	names = append(names, "", " ", "true ", "call\x00", "call/1")
	for _, name := range names {
		for _, arity := range []int{-1 << 63, -1, 0, 1, 2, 3, 4, 5, 6, 7, 8, 15, 16, 17, 1 << 32, 1<<32 + 1, 1<<63 - 1} {
			if got := clause.Builtin(name, arity); got != is[name+"/"+strconv.Itoa(arity)] {
				t.Errorf("Builtin(%q, %d) = %v", name, arity, got)
			}
		}
	}
}

// bodies are bodies, and what is told of them: their goals, or the ball.
var bodies = map[string]string{
	"a":                    "call a",
	"f(X, a)":              "call f(_0,a)",
	"true":                 "",
	"!":                    "cut !",
	"X":                    "var _0",
	"a, b":                 "call a; call b",
	"(b, !), X":            "call b; cut !; var _0",
	"a, (b, (c, d)), e":    "call a; call b; call c; call d; call e",
	"((a, b), c), d":       "call a; call b; call c; call d",
	"true, true":           "",
	"(true, a), (b, true)": "call a; call b",
	"!, !":                 "cut !; cut !",
	"X, Y, X":              "var _0; var _1; var _0",
	"(a ; b)":              "body ;(a,b)",
	"(a -> b)":             "body ->(a,b)",
	"\\+ a":                "body \\+(a)",
	"(a -> b ; c), !":      "body ;(->(a,b),c); cut !",
	"(a, 1 ; 2)":           "body ;(','(a,1),2)",
	"(! , true ; X)":       "body ;(','(!,true),_0)",
	"\\+ 1":                "body \\+(1)",
	"(1 -> 2)":             "body ->(1,2)",
	"call((a, b))":         "call call(','(a,b))",
	"call(1)":              "call call(1)",
	"(a :- b)":             "call :-(a,b)",
	"a, (:- b)":            "call a; call :-(b)",
	";":                    "call ;",
	"->":                   "call ->",
	"\\+":                  "call \\+",
	"','":                  "call ','",
	"[]":                   "call []",
	"[a, b]":               "call [a,b]",
	"{a, b}":               "call {}(','(a,b))",
	"';'(a)":               "call ;(a)",
	"';'(a, b, c)":         "call ;(a,b,c)",
	"'->'(a)":              "call ->(a)",
	"'->'(a, b, c)":        "call ->(a,b,c)",
	"\\+(a, b)":            "call \\+(a,b)",
	"','(a)":               "call ','(a)",
	"','(a, b, c)":         "call ','(a,b,c)",
	"true(a)":              "call true(a)",
	"!(a)":                 "call !(a)",
	"fail, halt, nl":       "call fail; call halt; call nl",
	"'True', '!!'":         "call 'True'; call '!!'",
	"1":                    "error(type(callable,1))",
	"-1":                   "error(type(callable,-1))",
	"a, 2, b, 3":           "error(type(callable,2))",
	"(a, 3), 2":            "error(type(callable,3))",
	"X, !, true, (b, 0)":   "error(type(callable,0))",
	"1 + 2":                "call +(1,2)",
}

// isBody checks the goals of a body, or the ball.
func isBody(t *testing.T, what string, x api.Term, want string) {
	t.Helper()
	goals, ball, ok := clause.Body(x)
	got := listed(goals)
	if !ok {
		got = canon(ball)
	}
	if got != want || ok && !reflect.DeepEqual(ball, api.Term{}) || !ok && len(goals) > 0 {
		t.Errorf("%s: %q, %s, %v, not %q", what, listed(goals), canon(ball), ok, want)
	}
}

// isFrom checks the clause of a term: its head, its goals, and how many variables it has, or the ball.
func isFrom(t *testing.T, what string, x api.Term, want string) {
	t.Helper()
	k, ball, ok := clause.From(x)
	got := canon(k.Head) + " :- " + listed(k.Goals) + " " + strconv.Itoa(k.Vars)
	if !ok {
		got = canon(ball)
	}
	if got != want || ok && !reflect.DeepEqual(ball, api.Term{}) || !ok && !reflect.DeepEqual(k, api.Clause{}) {
		t.Errorf("%s: %q, %s, %v, not %q", what, got, canon(ball), ok, want)
	}
}

// P14.1: the goals of bodies, alone, and as a clause's.
func TestBody(t *testing.T) {
	for s, want := range bodies {
		isBody(t, s, read(t, s), want)
		k := read(t, "h :- ("+s+")")
		switch {
		case strings.HasPrefix(want, "error"):
			isFrom(t, s, k, want)
		case strings.Contains(want, "_1"):
			isFrom(t, s, k, "h :- "+want+" 2")
		case strings.Contains(want, "_0"):
			isFrom(t, s, k, "h :- "+want+" 1")
		default:
			isFrom(t, s, k, "h :- "+want+" 0")
		}
	}
	isBody(t, "it is not renamed", c(",", v(7), c("f", v(3), v(api.MaxVar-1))), "var _7; call f(_3,_1073741823)")
}

// P14.1: clauses, with the example, and what is refused of heads; which ball is told first.
func TestFrom(t *testing.T) {
	for s, want := range map[string]string{
		"a :- (b, !), X":                     "a :- call b; cut !; var _0 1",
		"a":                                  "a :-  0",
		"f(X, Y, X)":                         "f(_0,_1,_0) :-  2",
		"a :- true":                          "a :-  0",
		"[] :- a":                            "[] :- call a 0",
		"[X] :- a":                           "[_0] :- call a 1",
		"{} :- {}":                           "{} :- call {} 0",
		"'' :- a":                            "'' :- call a 0",
		"p(X) :- q(Y, X), Z":                 "p(_0) :- call q(_1,_0); var _2 3",
		"p(_, _)":                            "p(_0,_1) :-  2",
		"':-'(a, b, c)":                      ":-(a,b,c) :-  0",
		"':-' :- a":                          ":- :- call a 0",
		"call(1, 2, 3, 4, 5) :- 'a'":         "call(1,2,3,4,5) :- call a 0",
		"call :- call":                       "call :- call call 0",
		"true(1)":                            "true(1) :-  0",
		"'True'":                             "'True' :-  0",
		"is(1)":                              "is(1) :-  0",
		"a / b":                              "/(a,b) :-  0",
		"X":                                  "error(inst)",
		"X :- a":                             "error(inst)",
		"X :- 1":                             "error(inst)",
		"7":                                  "error(type(callable,7))",
		"-7 :- a":                            "error(type(callable,-7))",
		"1 :- 2":                             "error(type(callable,1))",
		"a :- 2":                             "error(type(callable,2))",
		"a :- b, (3, 2), c":                  "error(type(callable,3))",
		"true":                               "error(perm(/(true,0)))",
		"! :- a":                             "error(perm(/(!,0)))",
		"(a, b)":                             "error(perm(/(',',2)))",
		"(a, b) :- c":                        "error(perm(/(',',2)))",
		"(a ; b) :- 1":                       "error(perm(/(;,2)))",
		"(a :- b) :- c":                      "error(perm(/(:-,2)))",
		":- a":                               "error(perm(/(:-,1)))",
		"(:- a) :- b":                        "error(perm(/(:-,1)))",
		"call(X, Y, Z, U) :- a":              "error(perm(/(call,4)))",
		"1 + 1 =:= 2":                        "error(perm(/(=:=,2)))",
		"atom_length(X, Y)":                  "error(perm(/(atom_length,2)))",
		"\\+ a :- 1":                         "error(perm(/(\\+,1)))",
		"findall(X, a, L) :- X":              "error(perm(/(findall,3)))",
		"f(1,2,3,4,5,6,7,8,9,1,2,3,4,5,6,7)": "f(1,2,3,4,5,6,7,8,9,1,2,3,4,5,6,7) :-  0",
	} {
		isFrom(t, s, read(t, s), want)
	}
	isFrom(t, "renamed", c(":-", c("p", v(9), v(4)), c(",", v(4), c("q", v(api.MaxVar-1), v(9)))), "p(_0,_1) :- var _1; call q(_2,_0) 3")
	isFrom(t, "renamed", c("p", v(9), v(9), v(0)), "p(_0,_0,_1) :-  2")
}

// conj answers a body of these goals, the commas' brackets being on the left or on the right.
func conj(left bool, goals ...api.Term) api.Term {
	last := len(goals) - 1
	switch {
	case last == 0:
		return goals[0]
	case left:
		return c(",", conj(left, goals[:last]...), goals[last])
	}
	return c(",", goals[0], conj(left, goals[1:]...))
}

// times answers the term that many times.
func times(n int, x api.Term) []api.Term {
	var l []api.Term
	for range n {
		l = append(l, x)
	}
	return l
}

// P14.1: 64 goals, and more; only goals are counted.
func TestManyGoals(t *testing.T) {
	const size, callable = "error(size)", "error(type(callable,1))"
	join := func(lists ...[]api.Term) []api.Term {
		var all []api.Term
		for _, l := range lists {
			all = append(all, l...)
		}
		return all
	}
	for what, k := range map[string]struct {
		goals []api.Term
		want  string
	}{
		"64 calls":                    {times(64, a("a")), strings.Repeat("call a; ", 64)},
		"64 cuts":                     {times(64, a("!")), strings.Repeat("cut !; ", 64)},
		"64 variables":                {times(64, v(0)), strings.Repeat("var _0; ", 64)},
		"65 calls":                    {times(65, a("a")), size},
		"65 cuts":                     {times(65, a("!")), size},
		"65 variables":                {times(65, v(0)), size},
		"65 bodies":                   {times(65, c("\\+", a("a"))), size},
		"190 calls":                   {times(190, a("a")), size},
		"190 times true":              {times(190, a("true")), ""},
		"64 calls, behind 120 true":   {join(times(120, a("true")), times(64, a("a"))), strings.Repeat("call a; ", 64)},
		"64 calls, ahead of 120 true": {join(times(64, a("a")), times(120, a("true"))), strings.Repeat("call a; ", 64)},
		"65 calls among true":         {join(times(30, a("a")), times(60, a("true")), times(35, a("a"))), size},
		"64 calls, an integer":        {join(times(64, a("a")), times(1, i(1))), callable},
		"an integer, 64 calls":        {join(times(1, i(1)), times(64, a("a"))), callable},
		"65 calls, an integer":        {join(times(65, a("a")), times(1, i(1))), size},
		"an integer, 65 calls":        {join(times(1, i(1)), times(65, a("a"))), size},
		"100 integers":                {times(100, i(1)), callable},
		"a body of many":              {times(1, c("\\+", conj(true, times(100, a("a"))...))), "body " + canon(c("\\+", conj(true, times(100, a("a"))...))) + "; "},
		"a call of many":              {times(1, c("call", conj(false, times(100, i(1))...))), "call " + canon(c("call", conj(false, times(100, i(1))...))) + "; "},
	} {
		for _, left := range []bool{false, true} {
			b := conj(left, k.goals...)
			want := strings.TrimSuffix(k.want, "; ")
			isBody(t, what, b, want)
			if strings.HasPrefix(want, "error") {
				isFrom(t, what, c(":-", a("h"), b), want)
			} else if k, _, ok := clause.From(c(":-", a("h"), b)); !ok || listed(k.Goals) != want {
				t.Errorf("%s: %v, %s", what, ok, listed(k.Goals))
			}
			// Too many goals are told ahead of a head that may not be, this ahead of an integer.
			for head, ball := range map[string]string{"X": "error(inst)", "1": callable, "a, b": "error(perm(/(',',2)))"} {
				if want == size {
					ball = size
				}
				isFrom(t, what, c(":-", read(t, head), b), ball)
			}
		}
	}
}

// P14.1, P14.2: terms that may not be; what just may.
func TestLimits(t *testing.T) {
	for what, x := range bad() {
		isBody(t, what, x, "error(size)")
		isFrom(t, what, x, "error(size)")
		isBody(t, what, c(",", i(1), x), "error(size)")
		isFrom(t, what, c(":-", v(0), x), "error(size)")
		isFrom(t, what, c(":-", x, i(1)), "error(size)")
		if clause.Callable(x) {
			t.Errorf("%s: may be called", what)
		}
		isAdd(t, what, x, nil, "error(size)")
		isAdd(t, what, x, args(2), "error(size)")
		isAdd(t, what, a("f"), []api.Term{x}, "error(size)")
		isAdd(t, what, c("f", v(0)), []api.Term{a("a"), x}, "error(size)")
		isAdd(t, what, v(0), []api.Term{x}, "error(inst)")
		isAdd(t, what, i(5), []api.Term{x}, "error(type(callable,5))")
		isBack(t, what, api.Clause{Head: x}, "{}")
		isBack(t, what, api.Clause{Head: x, Goals: []api.Goal{{Kind: api.GoalCut}}}, "{}")
		isBack(t, what, api.Clause{Head: a("a"), Goals: []api.Goal{{Kind: api.GoalCall, Term: x}}}, "{}")
		isBack(t, what, api.Clause{Head: a("a"), Goals: []api.Goal{{Kind: api.GoalCall, Term: a("b")}, {Kind: api.GoalVar, Term: x}, {Kind: api.GoalCut}}}, "{}")
	}
	deep := nested(197, v(5))
	isFrom(t, "200 levels", c(":-", c("h", deep), deep), canon(c("h", nested(197, v(0))))+" :- call "+canon(nested(197, v(0)))+" 1")
	isBody(t, "200 levels", nested(199, a("a")), "call "+canon(nested(199, a("a"))))
	isFrom(t, "4095 parts", shared(11, a("a")), canon(shared(11, a("a")))+" :-  0")
	isFrom(t, "201 levels", c(":-", a("h"), c(",", deep, nested(198, a("a")))), "error(size)")
}

// isBack checks the term of a clause.
func isBack(t *testing.T, what string, k api.Clause, want string) {
	t.Helper()
	if got := clause.Back(k); canon(got) != want {
		t.Errorf("%s: %.200s, not %s", what, text(got), want)
	}
}

// P14.2: the terms of clauses that were laid by hand.
func TestBack(t *testing.T) {
	call := func(x api.Term) api.Goal { return api.Goal{Kind: api.GoalCall, Term: x} }
	cut := api.Goal{Kind: api.GoalCut, Term: a("!")}
	for _, k := range []struct {
		head  api.Term
		goals []api.Goal
		want  string
	}{
		{a("h"), nil, "h"},
		{c("h", v(7), v(3)), []api.Goal{}, "h(_7,_3)"},
		{a("h"), []api.Goal{call(a("a"))}, ":-(h,a)"},
		{a("h"), []api.Goal{call(a("a")), call(a("b")), call(a("c"))}, ":-(h,','(a,','(b,c)))"},
		{a("h"), []api.Goal{cut}, ":-(h,!)"},
		{a("h"), []api.Goal{cut, {Kind: api.GoalVar, Term: v(4)}, cut}, ":-(h,','(!,','(_4,!)))"},
		{a("h"), []api.Goal{{Kind: api.GoalCut}, {Kind: api.GoalCut, Term: a("foo")}, {Kind: api.GoalCut, Term: endless("e")}}, ":-(h,','(!,','(!,!)))"},
		{a("h"), []api.Goal{{Kind: api.GoalBody, Term: c(";", a("a"), v(0))}, call(c("f", v(1)))}, ":-(h,','(;(a,_0),f(_1)))"},
		{a("h"), []api.Goal{call(c(",", a("a"), a("b"))), call(a("true"))}, ":-(h,','(','(a,b),true))"},
		{a("true"), []api.Goal{call(i(1))}, ":-(true,1)"},
		{v(2), []api.Goal{call(a("a"))}, ":-(_2,a)"},
		{i(2), nil, "2"},
		{a("h"), []api.Goal{{Kind: 0, Term: a("a")}, {Kind: 9, Term: a("b")}}, ":-(h,','(a,b))"},
		{c(":-", a("a"), a("b")), nil, ":-(a,b)"},
		{a("h"), []api.Goal{call(a("a")), {Kind: api.GoalCall}}, "{}"},
		{api.Term{}, nil, "{}"},
		{api.Term{}, []api.Goal{cut}, "{}"},
	} {
		for vars := -1; vars < 2; vars++ {
			isBack(t, k.want, api.Clause{Head: k.head, Goals: k.goals, Vars: vars}, k.want)
		}
	}
	// A goal is as deep as there are goals ahead of it, and 1 or 2 more.
	for n, want := range map[int]bool{1: true, 64: true, 65: true, 198: true, 199: true, 200: false, 201: false, 202: false, 100000: false} {
		goals := make([]api.Goal, n)
		for j := range goals {
			goals[j] = api.Goal{Kind: api.GoalCut}
		}
		got := clause.Back(api.Clause{Head: a("h"), Goals: goals})
		if want {
			isBack(t, strconv.Itoa(n), api.Clause{Head: a("h"), Goals: goals}, canon(c(":-", a("h"), conj(false, times(n, a("!"))...))))
		} else if !reflect.DeepEqual(got, api.Term{}) {
			t.Errorf("%d goals: %.80s", n, text(got))
		}
	}
	for levels, want := range map[int]bool{134: true, 135: true, 136: false} {
		goals := make([]api.Goal, 64)
		for j := range goals {
			goals[j] = call(a("a"))
		}
		goals[63] = call(nested(levels, a("a")))
		if got := clause.Back(api.Clause{Head: a("h"), Goals: goals}); (got.Kind == api.KindComp) != want {
			t.Errorf("%d levels behind 63 goals: %.80s", levels, text(got))
		}
	}
}

// P14.2: what may be called.
func TestCallable(t *testing.T) {
	for s, want := range map[string]bool{"a": true, "f(X)": true, "[]": true, "[1]": true, "''": true, "true": true, "(1, 2)": true, "(1 :- X)": true, "1": false, "-1": false, "X": false} {
		if got := clause.Callable(read(t, s)); got != want {
			t.Errorf("%s: %v", s, got)
		}
	}
	if !clause.Callable(nested(199, v(0))) || clause.Callable(nested(200, v(0))) || !clause.Callable(shared(11, a("a"))) || clause.Callable(v(api.MaxVar-1)) {
		t.Error("limits")
	}
}

// isAdd checks a term with further arguments, or the ball.
func isAdd(t *testing.T, what string, x api.Term, l []api.Term, want string) {
	t.Helper()
	whole, ball, ok := clause.Add(x, l)
	got := whole
	if !ok {
		got = ball
	}
	if canon(got) != want || ok && !reflect.DeepEqual(ball, api.Term{}) || !ok && !reflect.DeepEqual(whole, api.Term{}) {
		t.Errorf("%s: %.200s, %s, %v, not %s", what, text(whole), canon(ball), ok, want)
	}
}

// P14.2: further arguments, and what is refused, in order.
func TestAdd(t *testing.T) {
	const size = "error(size)"
	for _, k := range []struct {
		t    api.Term
		l    []api.Term
		want string
	}{
		{a("f"), nil, "f"},
		{a("f"), []api.Term{}, "f"},
		{a("f"), []api.Term{v(3)}, "f(_3)"},
		{a("f"), []api.Term{v(3), i(1), c("f", a("b"))}, "f(_3,1,f(b))"},
		{c("f", v(0)), nil, "f(_0)"},
		{c("f", v(0), a("b")), []api.Term{v(3), v(0)}, "f(_0,b,_3,_0)"},
		{a("[]"), []api.Term{a("b")}, "[](b)"},
		{a(""), []api.Term{a("")}, "''('')"},
		{c(".", a("b")), []api.Term{a("[]")}, "[b]"},
		{c("+", i(1)), []api.Term{i(2)}, "+(1,2)"},
		{a(","), []api.Term{i(1), i(2)}, "','(1,2)"},
		{v(0), nil, "error(inst)"},
		{v(0), []api.Term{a("b")}, "error(inst)"},
		{v(0), args(17), "error(inst)"},
		{v(0), []api.Term{{}}, "error(inst)"},
		{i(-4), nil, "error(type(callable,-4))"},
		{i(-4), args(1000), "error(type(callable,-4))"},
		{i(-4), []api.Term{{}}, "error(type(callable,-4))"},
		{v(-1), []api.Term{a("b")}, size},
		{i(api.MaxInt + 1), nil, size},
		{a("f"), []api.Term{{}}, size},
		{a("f"), []api.Term{a("b"), v(-1), a("b")}, size},
		{a("f"), args(16), canon(c("f", args(16)...))},
		{a("f"), args(17), size},
		{c("f", args(15)...), args(1), canon(c("f", args(16)...))},
		{c("f", args(16)...), nil, canon(c("f", args(16)...))},
		{c("f", args(16)...), args(1), size},
		{c("f", args(9)...), args(8), size},
		{a("f"), args(100000), size},
		{a("f"), []api.Term{nested(198, a("b"))}, canon(nestedIn("f", 198))},
		{a("f"), []api.Term{nested(199, a("b"))}, size},
		{c("f", a("b")), []api.Term{nested(199, a("b"))}, size},
		{a("f"), []api.Term{shared(10, i(1)), shared(10, i(2))}, canon(c("f", shared(10, i(1)), shared(10, i(2))))},
		{c("f", a("b")), []api.Term{shared(10, i(1)), shared(10, i(2))}, canon(c("f", a("b"), shared(10, i(1)), shared(10, i(2))))},
		{c("f", a("b"), a("b")), []api.Term{shared(10, i(1)), shared(10, i(2))}, size},
	} {
		isAdd(t, text(k.t)[:min(60, len(text(k.t)))]+", "+strconv.Itoa(len(k.l)), k.t, k.l, k.want)
	}
}

// nestedIn answers the compound of that name around so many levels.
func nestedIn(name string, levels int) api.Term {
	return c(name, nested(levels, a("b")))
}
