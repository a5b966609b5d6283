package built_test

import (
	"reflect"
	"slices"
	"strconv"
	"strings"
	"testing"

	"elenchus/api"
	"elenchus/built"
	"elenchus/clause"
	"elenchus/oper"
	"elenchus/parse"
	"elenchus/term"
	"elenchus/write"
)

// The terms of these tests are laid by hand, or read from texts.

func v(n int) api.Term    { return api.Term{Kind: api.KindVar, N: n} }
func i(n int) api.Term    { return api.Term{Kind: api.KindInt, N: n} }
func a(s string) api.Term { return api.Term{Kind: api.KindAtom, S: s} }
func c(s string, l ...api.Term) api.Term {
	return api.Term{Kind: api.KindComp, S: s, L: l}
}

// list answers the list of these.
func list(l ...api.Term) api.Term {
	whole := a("[]")
	for _, x := range slices.Backward(l) {
		whole = c(".", x, whole)
	}
	return whole
}

// filled answers so many of the same.
func filled(n int, x api.Term) []api.Term { return slices.Repeat([]api.Term{x}, n) }

// nested answers a term that many levels above the inner one.
func nested(levels int, inner api.Term) api.Term {
	for range levels {
		inner = c("s", inner)
	}
	return inner
}

// wide answers a term of 16^levels leaves.
func wide(levels int, leaf api.Term) api.Term {
	if levels == 0 {
		return leaf
	}
	return c("w", filled(16, wide(levels-1, leaf))...)
}

// endless answers a term that has itself as its argument.
func endless() api.Term {
	l := make([]api.Term, 1)
	l[0] = c("s", l...)
	return l[0]
}

// bad are terms that may not be.
func bad() []api.Term {
	return []api.Term{
		{}, {Kind: 5}, {Kind: -1, S: "a"},
		v(-1), v(api.MaxVar), {Kind: api.KindVar, S: "X"},
		i(api.MaxInt + 1), i(-api.MaxInt - 1), {Kind: api.KindInt, N: 1, S: "a"},
		a(strings.Repeat("a", 65)), {Kind: api.KindAtom, S: "a", N: 1}, {Kind: api.KindAtom, S: "a", L: []api.Term{i(1)}},
		c("f"), c("f", filled(17, i(1))...), c("f", v(0), c("g", api.Term{})), {Kind: api.KindComp, S: "f", N: 1, L: []api.Term{i(1)}},
		nested(200, a("a")), wide(3, a("a")), endless(),
	}
}

// indicator is what a predicate goes by.
type indicator struct {
	name  string
	arity int
}

// preds are all predicates.
func preds() []indicator {
	var all []indicator
	for arity, names := range []string{1: "var nonvar atom integer compound", 2: "= \\= == \\== @< @> @=< @>= =.. copy_term is =:= =\\= < > =< >= atom_length", 3: "compare functor arg"} {
		for name := range strings.FieldsSeq(names) {
			all = append(all, indicator{name, arity})
		}
	}
	return all
}

// text writes any value of api.Term, so that just those that are the same have the same text; what may be is written canonically.
func text(t api.Term) string {
	if s, e := write.Canon(t); e == api.OK {
		return s
	}
	s := strconv.Itoa(t.Kind) + ":" + strconv.Itoa(t.N) + ":" + strconv.Quote(t.S)
	for _, x := range t.L {
		s += "(" + text(x) + ")"
	}
	return s
}

// told writes a result: no; yes, and what is to be unified; or a ball. What stands where nothing should is written too.
func told(r api.Result) string {
	s := "no"
	if r.Ok {
		s = "yes"
	}
	for j := range max(len(r.Left), len(r.Right)) {
		if j >= len(r.Left) || j >= len(r.Right) {
			return s + " and not as many terms on both sides"
		}
		s += " " + text(r.Left[j]) + ":" + text(r.Right[j])
	}
	if r.Thrown {
		s += " ball " + text(r.Ball)
	} else if !reflect.DeepEqual(r.Ball, api.Term{}) {
		s += " and a ball that is not thrown"
	}
	return strings.TrimPrefix(s, "no ball ")
}

// comes checks what a call comes to.
func comes(t *testing.T, name string, l []api.Term, next int, want string) {
	t.Helper()
	r, known := built.Call(name, l, next)
	if got := told(r); !known || got != want {
		var args []string
		for _, x := range l {
			args = append(args, text(x))
		}
		t.Errorf("%s(%.200s) next %d: %.300s, %v, not %.300s", name, strings.Join(args, ", "), next, got, known, want)
	}
}

// goal checks what the call of a text comes to, the new variables beginning at 7.
func goal(t *testing.T, s, want string) {
	t.Helper()
	r, e := parse.One(s, oper.New())
	if e != api.OK || r.Term.Kind != api.KindComp {
		t.Fatal(s, e)
	}
	comes(t, r.Term.S, r.Term.L, 7, want)
}

// goals checks what the calls of texts come to, each text having what it comes to behind it.
func goals(t *testing.T, l ...string) {
	t.Helper()
	for pair := range slices.Chunk(l, 2) {
		goal(t, pair[0], pair[1])
	}
}

const (
	inst = "error(inst)"
	size = "error(size)"
	most = 1<<63 - 1
	low  = -1 << 63
)

// P21.1: just these are known; no other one is called.
func TestKnown(t *testing.T) {
	names := []string{"", "X", "true", "fail", "!", "halt", "nl", ",", ";", "->", "\\+", "call", "catch", "throw", "findall", "assertz", "asserta", "retract", "write", ":-", "=.", "=...", "Var", "var ", "copy_term/2", "number", "atom_lengt", "atom_length2", "+", "-", "foo", "[]", "."}
	for _, p := range preds() {
		names = append(names, p.name)
	}
	for _, name := range names {
		for _, arity := range []int{low, -3, -2, -1, 0, 1, 2, 3, 4, 5, 16, 17, 1 << 32, most} {
			want := slices.Contains(preds(), indicator{name, arity})
			if got := built.Known(name, arity); got != want {
				t.Error("Known", name, arity, "is", got)
			}
			if arity < 0 || arity > 17 {
				continue
			}
			for _, x := range []api.Term{v(0), i(1), a("a"), {}, endless()} {
				if r, known := built.Call(name, filled(arity, x), 0); known != want || !known && told(r) != "no" {
					t.Error("Call", name, arity, told(r), known)
				}
			}
		}
	}
}

// P21.1: what is known here is built in (14).
func TestBuiltIn(t *testing.T) {
	for _, p := range preds() {
		if !built.Known(p.name, p.arity) || !clause.Builtin(p.name, p.arity) {
			t.Error(p)
		}
	}
}

// P21.1: =, \=.
func TestUnified(t *testing.T) {
	goals(t,
		"X = Y", "yes _0:_1",
		"a = b", "yes a:b",
		"f(X, b) = f(a, Y)", "yes f(_0,b):f(a,_1)",
		"X = f(X)", "yes _0:f(_0)",
		"X \\= Y", "no",
		"X \\= X", "no",
		"X \\= a", "no",
		"a \\= a", "no",
		"a \\= b", "yes",
		"1 \\= a", "yes",
		"f(X, b) \\= f(a, Y)", "no",
		"f(X, b) \\= f(a, X)", "yes",
		"X \\= f(X)", "yes",
		"f(X, Y) \\= f(g(Y), g(X))", "yes",
		"f(X) \\= f(X, Y)", "yes",
		"f(X) \\= g(X)", "yes",
	)
}

// P21.1: ==, \==.
func TestSame(t *testing.T) {
	goals(t,
		"X == X", "yes", "X \\== X", "no",
		"X == Y", "no", "X \\== Y", "yes",
		"X == a", "no", "X \\== a", "yes",
		"f(X, 1, g(a)) == f(X, 1, g(a))", "yes", "f(X, 1, g(a)) \\== f(X, 1, g(a))", "no",
		"f(X) == f(Y)", "no", "f(X) \\== f(Y)", "yes",
		"1 == 1", "yes", "1 == 2", "no", "1 == a", "no",
		"a == a", "yes", "a == b", "no", "f == f(X)", "no",
		"'1' == 1", "no", "'X' == X", "no",
	)
}

// P21.1: @<, @>, @=<, @>=, compare.
func TestOrdered(t *testing.T) {
	for _, x := range []struct{ left, right, way string }{
		{"X", "1", "<"}, {"1", "X", ">"}, {"X", "X", "="}, {"X", "f(X)", "<"},
		{"1", "2", "<"}, {"2", "1", ">"}, {"2", "2", "="}, {"(-1)", "1", "<"},
		{"9007199254740991", "a", "<"}, {"a", "0", ">"},
		{"a", "b", "<"}, {"b", "ab", ">"}, {"a", "a", "="}, {"''", "a", "<"},
		{"z", "f(1)", "<"}, {"f(1)", "z", ">"},
		{"z(1)", "a(1, 1)", "<"}, {"g(0)", "f(9)", ">"}, {"f(1, 2)", "f(1, 3)", "<"}, {"f(2, 1)", "f(1, 2)", ">"}, {"f(X, g(Y))", "f(X, g(Y))", "="},
		{"f(1, X)", "f(2, Y)", "<"}, {"g(X)", "f(Y)", ">"}, {"f(X, a)", "f(X, 1)", ">"},
		{"X", "Y", ""}, {"f(X)", "f(Y)", ""}, {"f(1, X, 1)", "f(1, Y, 2)", ""},
	} {
		way := x.way
		for op, ways := range map[string]string{"@<": "<", "@>": ">", "@=<": "<=", "@>=": ">="} {
			want := "no"
			if way == "" {
				want = inst
			} else if strings.Contains(ways, way) {
				want = "yes"
			}
			goal(t, x.left+" "+op+" "+x.right, want)
		}
		want := "yes _0:" + way
		if way == "" {
			want = inst
		}
		goal(t, "compare(O, "+x.left+", "+x.right+")", want)
	}
	goals(t,
		"compare(<, 1, 2)", "yes <:<",
		"compare(>, 1, 2)", "yes >:<",
		"compare(foo, a, a)", "yes foo:=",
		"compare(1, b, a)", "yes 1:>",
		"compare(f(X), X, X)", "yes f(_0):=",
		"compare(1, X, Y)", inst,
	)
}

// P21.1: the kinds.
func TestKinds(t *testing.T) {
	for x, holds := range map[string]string{"X": "var", "0": "nonvar integer", "(-7)": "nonvar integer", "a": "nonvar atom", "[]": "nonvar atom", "''": "nonvar atom", "f(X)": "nonvar compound", "[1]": "nonvar compound"} {
		for name := range strings.FieldsSeq("var nonvar atom integer compound") {
			want := "no"
			if slices.Contains(strings.Fields(holds), name) {
				want = "yes"
			}
			goal(t, name+"("+x+")", want)
		}
	}
}

// P21.1: functor of what is no variable.
func TestFunctor(t *testing.T) {
	goals(t,
		"functor(f(a, X), N, A)", "yes _1:f _2:2",
		"functor(f(a, X), X, X)", "yes _0:f _0:2",
		"functor(f(a, X), g, 1)", "yes g:f 1:2",
		"functor(f(a), g(b), -1)", "yes g(b):f -1:1",
		"functor(a, N, A)", "yes _0:a _1:0",
		"functor([], N, A)", "yes _0:[] _1:0",
		"functor('', N, A)", "yes _0:'' _1:0",
		"functor(5, N, A)", "yes _0:5 _1:0",
		"functor(-5, N, a)", "yes _0:-5 a:0",
		"functor([1, 2], N, A)", "yes _0:'.' _1:2",
		"functor(1 + 2, N, A)", "yes _0:+ _1:2",
		"functor(f(1,2,3,4,5,6,7,8,9,10,11,12,13,14,15,16), N, A)", "yes _0:f _1:16",
	)
}

// P21.1: functor of a variable.
func TestFunctorMakes(t *testing.T) {
	goals(t,
		"functor(T, f, 2)", "yes _0:f(_7,_8)",
		"functor(T, f, 1)", "yes _0:f(_7)",
		"functor(T, f, 16)", "yes _0:f(_7,_8,_9,_10,_11,_12,_13,_14,_15,_16,_17,_18,_19,_20,_21,_22)",
		"functor(T, '.', 2)", "yes _0:[_7|_8]",
		"functor(T, [], 1)", "yes _0:[](_7)",
		"functor(T, f, 0)", "yes _0:f",
		"functor(T, 5, 0)", "yes _0:5",
		"functor(T, -5, 0)", "yes _0:-5",
		"functor(T, [], 0)", "yes _0:[]",
		"functor(T, N, 2)", inst,
		"functor(T, T, 2)", inst,
		"functor(T, f, A)", inst,
		"functor(T, f, T)", inst,
		"functor(T, N, A)", inst,
		"functor(T, N, a)", inst,
		"functor(T, N, 17)", inst,
		"functor(T, f(x), A)", inst,
		"functor(T, f, a)", "error(type(integer,a))",
		"functor(T, f, f(X))", "error(type(integer,f(_1)))",
		"functor(T, f(x), a)", "error(type(integer,a))",
		"functor(T, f, -1)", "error(type(arity,-1))",
		"functor(T, f, 17)", "error(type(arity,17))",
		"functor(T, f, 9007199254740991)", "error(type(arity,9007199254740991))",
		"functor(T, f, -9007199254740991)", "error(type(arity,-9007199254740991))",
		"functor(T, f(x), -1)", "error(type(arity,-1))",
		"functor(T, 5, 17)", "error(type(arity,17))",
		"functor(T, f(X), 0)", "error(type(atomic,f(_1)))",
		"functor(T, f(x), 1)", "error(type(atom,f(x)))",
		"functor(T, 5, 1)", "error(type(atom,5))",
	)
}

// P21.1: arg.
func TestArg(t *testing.T) {
	goals(t,
		"arg(1, f(a, X), A)", "yes _1:a",
		"arg(2, f(a, X), A)", "yes _1:_0",
		"arg(2, f(a, X), b)", "yes b:_0",
		"arg(1, f(a, X), b)", "yes b:a",
		"arg(1, [1, 2], A)", "yes _0:1",
		"arg(2, [1, 2], A)", "yes _0:[2]",
		"arg(16, f(1,2,3,4,5,6,7,8,9,10,11,12,13,14,15,g(X)), A)", "yes _1:g(_0)",
		"arg(0, f(a, X), A)", "no",
		"arg(3, f(a, X), A)", "no",
		"arg(-1, f(a, X), A)", "no",
		"arg(9007199254740991, f(a), A)", "no",
		"arg(N, f(a), A)", inst,
		"arg(N, T, A)", inst,
		"arg(N, a, A)", inst,
		"arg(a, f(a), A)", "error(type(integer,a))",
		"arg(g(X), f(a), A)", "error(type(integer,g(_0)))",
		"arg(a, T, A)", "error(type(integer,a))",
		"arg(a, b, A)", "error(type(integer,a))",
		"arg(1, T, A)", inst,
		"arg(0, T, A)", inst,
		"arg(1, T, T)", inst,
		"arg(1, a, A)", "error(type(compound,a))",
		"arg(0, a, A)", "error(type(compound,a))",
		"arg(1, 5, A)", "error(type(compound,5))",
	)
}

// P21.1: =.. of what is no variable.
func TestUniv(t *testing.T) {
	goals(t,
		"f(a, X) =.. L", "yes _1:[f,a,_0]",
		"f(a, X) =.. X", "yes _0:[f,a,_0]",
		"f(a, X) =.. foo", "yes foo:[f,a,_0]",
		"f(a) =.. [g | X]", "yes [g|_0]:[f,a]",
		"a =.. L", "yes _0:[a]",
		"[] =.. L", "yes _0:[[]]",
		"'' =.. L", "yes _0:['']",
		"5 =.. L", "yes _0:[5]",
		"(-5) =.. [X]", "yes [_0]:[-5]",
		"[1, 2] =.. L", "yes _0:['.',1,[2]]",
		"1 + 2 =.. L", "yes _0:[+,1,2]",
		"f(g(X), [Y], X) =.. L", "yes _2:[f,g(_0),[_1],_0]",
		"f(1,2,3,4,5,6,7,8,9,10,11,12,13,14,15,16) =.. L", "yes _0:[f,1,2,3,4,5,6,7,8,9,10,11,12,13,14,15,16]",
	)
}

// P21.1: =.. of a variable.
func TestUnivMakes(t *testing.T) {
	goals(t,
		"T =.. [f, a, X]", "yes _0:f(a,_1)",
		"T =.. [f, T]", "yes _0:f(_0)",
		"T =.. ['.', 1, []]", "yes _0:[1]",
		"T =.. [[], 1]", "yes _0:[](1)",
		"T =.. [f, 1,2,3,4,5,6,7,8,9,10,11,12,13,14,15,16]", "yes _0:f(1,2,3,4,5,6,7,8,9,10,11,12,13,14,15,16)",
		"T =.. [f, 1,2,3,4,5,6,7,8,9,10,11,12,13,14,15,16,17]", size,
		"T =.. [X, 1,2,3,4,5,6,7,8,9,10,11,12,13,14,15,16,17]", inst,
		"T =.. [5, 1,2,3,4,5,6,7,8,9,10,11,12,13,14,15,16,17]", "error(type(atom,5))",
		"T =.. [f]", "yes _0:f",
		"T =.. [5]", "yes _0:5",
		"T =.. [[]]", "yes _0:[]",
		"T =.. L", inst,
		"T =.. T", inst,
		"T =.. [f | X]", inst,
		"T =.. [5, a | X]", inst,
		"T =.. [f(x) | X]", inst,
		"T =.. []", "error(type(list,[]))",
		"T =.. foo", "error(type(list,foo))",
		"T =.. 5", "error(type(list,5))",
		"T =.. f(X)", "error(type(list,f(_1)))",
		"T =.. '.'(a)", "error(type(list,'.'(a)))",
		"T =.. [f | a]", "error(type(list,[f|a]))",
		"T =.. [f, X | 5]", "error(type(list,[f,_1|5]))",
		"T =.. [X | g(a)]", "error(type(list,[_1|g(a)]))",
		"T =.. [X]", inst,
		"T =.. [f(x)]", "error(type(atomic,f(x)))",
		"T =.. [[1]]", "error(type(atomic,[1]))",
		"T =.. [X, a]", inst,
		"T =.. [f(x), a]", "error(type(atom,f(x)))",
		"T =.. [5, a]", "error(type(atom,5))",
	)
}

// P21.1: copy_term.
func TestCopyTerm(t *testing.T) {
	goals(t,
		"copy_term(f(X, Y, X), Z)", "yes _2:f(_7,_8,_7)",
		"copy_term(f(Y, g(X), Y, X), f(X, Y))", "yes f(_1,_0):f(_7,g(_8),_7,_8)",
		"copy_term(X, Y)", "yes _1:_7",
		"copy_term(X, X)", "yes _0:_7",
		"copy_term(a, X)", "yes _0:a",
		"copy_term(5, a)", "yes a:5",
		"copy_term(f(a, [1]), X)", "yes _0:f(a,[1])",
	)
	comes(t, "copy_term", []api.Term{c("f", v(9), v(7), v(8), v(9)), v(0)}, 7, "yes _0:f(_7,_8,_9,_7)")
	comes(t, "copy_term", []api.Term{c("f", v(api.MaxVar-1), v(0)), v(1)}, 0, "yes _1:f(_0,_1)")
}

// P21.1: is.
func TestIs(t *testing.T) {
	goals(t,
		"X is 1 + 2 * 3", "yes _0:7",
		"7 is 5", "yes 7:5",
		"a is -(3)", "yes a:-3",
		"f(X) is max(2, 3)", "yes f(_0):3",
		"X is -7 // 2", "yes _0:-3",
		"X is -7 mod 2", "yes _0:1",
		"X is 9007199254740990 + 1", "yes _0:9007199254740991",
		"X is 9007199254740991 + 1", "error(eval(over))",
		"X is 1 // 0", "error(eval(zero))",
		"X is Y", inst,
		"X is X", inst,
		"X is foo", "error(type(evaluable,/(foo,0)))",
		"X is foo(1, Y)", "error(type(evaluable,/(foo,2)))",
		"X is 1 + Y", inst,
		"X is foo + Y", "error(type(evaluable,/(foo,0)))",
		"X is Y + foo", inst,
	)
}

// P21.1: =:=, =\=, <, >, =<, >=.
func TestCompared(t *testing.T) {
	for op, ways := range map[string]string{"=:=": "=", "=\\=": "<>", "<": "<", ">": ">", "=<": "<=", ">=": ">="} {
		for _, x := range [][]string{{"<", "1", "1 + 1"}, {"=", "2 * 3", "6"}, {">", "5", "-(5)"}, {"<", "-9007199254740991", "9007199254740991"}} {
			want := "no"
			if strings.Contains(ways, x[0]) {
				want = "yes"
			}
			goal(t, x[1]+" "+op+" "+x[2], want)
		}
		goals(t,
			"X "+op+" 1", inst,
			"1 "+op+" X", inst,
			"X "+op+" foo", inst,
			"foo "+op+" X", "error(type(evaluable,/(foo,0)))",
			"1 // 0 "+op+" bar(1)", "error(eval(zero))",
			"1 "+op+" bar(1)", "error(type(evaluable,/(bar,1)))",
			"X "+op+" X", inst,
		)
	}
}

// P21.1: atom_length.
func TestAtomLength(t *testing.T) {
	goals(t,
		"atom_length(abc, N)", "yes _0:3",
		"atom_length('', N)", "yes _0:0",
		"atom_length([], N)", "yes _0:2",
		"atom_length('a b', foo)", "yes foo:3",
		"atom_length(a, 2)", "yes 2:1",
		"atom_length(A, N)", inst,
		"atom_length(A, 1)", inst,
		"atom_length(12, N)", "error(type(atom,12))",
		"atom_length(f(X), N)", "error(type(atom,f(_0)))",
	)
	comes(t, "atom_length", []api.Term{a("\u00e9\u00e9"), v(0)}, 0, "yes _0:4")
	comes(t, "atom_length", []api.Term{a("\xff\x00"), v(0)}, 0, "yes _0:2")
	comes(t, "atom_length", []api.Term{a(strings.Repeat("x", 64)), v(0)}, 0, "yes _0:64")
}

// P21.1: an argument that may not be is told ahead of all else, wherever it stands, and of whatever the others are.
func TestBadArguments(t *testing.T) {
	for _, p := range preds() {
		for _, x := range bad() {
			for _, other := range []api.Term{v(0), i(0), a("a"), c("f", v(0)), list(a("a"), i(1))} {
				for at := range p.arity {
					l := filled(p.arity, other)
					l[at] = x
					if r, known := built.Call(p.name, l, 0); !known || told(r) != size {
						t.Errorf("%v with %.80s at %d: %s, %v", p, text(api.Term{Kind: x.Kind, N: x.N, S: x.S}), at, told(r), known)
					}
				}
			}
			if r, known := built.Call(p.name, filled(p.arity, x), 0); !known || told(r) != size {
				t.Error(p, told(r), known)
			}
		}
	}
}

// P21.1: new variables have numbers that may be, or it is too large; where there are none, any next one does.
func TestNext(t *testing.T) {
	for _, next := range []int{low, -2, -1, 0, 1, 1000, api.MaxVar - 3, api.MaxVar - 2, api.MaxVar - 1, api.MaxVar, api.MaxVar + 1, 1 << 32, most - 1, most} {
		want := size
		if next >= 0 && next <= api.MaxVar-2 {
			want = "yes _0:f(_" + strconv.Itoa(next) + ",_" + strconv.Itoa(next+1) + ")"
		}
		comes(t, "functor", []api.Term{v(0), a("f"), i(2)}, next, want)
		comes(t, "copy_term", []api.Term{c("f", v(5), v(3)), v(0)}, next, want)
		comes(t, "functor", []api.Term{v(0), a("f"), i(0)}, next, "yes _0:f")
		comes(t, "functor", []api.Term{c("f", v(1)), v(2), v(3)}, next, "yes _2:f _3:1")
		comes(t, "copy_term", []api.Term{c("f", a("a")), v(0)}, next, "yes _0:f(a)")
		comes(t, "functor", []api.Term{v(0), i(5), i(2)}, next, "error(type(atom,5))")
		comes(t, "=..", []api.Term{v(0), list(a("f"), v(1))}, next, "yes _0:f(_1)")
		comes(t, "=", []api.Term{v(0), v(1)}, next, "yes _0:_1")
	}
	comes(t, "copy_term", []api.Term{v(3), v(0)}, api.MaxVar-1, "yes _0:_"+strconv.Itoa(api.MaxVar-1))
}

// P21.1: what is to be unified may be, or it is too large.
func TestTooLarge(t *testing.T) {
	// A list's last item lies deeper than the compound's last argument.
	for levels, want := range map[int]bool{0: true, 197: true, 198: false, 199: false} {
		deep := nested(levels, a("a"))
		r, _ := built.Call("=..", []api.Term{c("f", deep), v(0)}, 0)
		if told(r) != size != want {
			t.Error(levels, r.Ok, r.Thrown)
		}
	}
	// Of a compound of n parts the list has n parts, of which as many as there are items, and one, are its own.
	parts := func(n int) api.Term { return c("f", wideOf(n-1)) }
	for n, want := range map[int]bool{api.MaxNodes - 4: true, api.MaxNodes - 3: true, api.MaxNodes - 2: false, api.MaxNodes: false} {
		if got := term.Size(parts(n)); got != n {
			t.Fatal(got, n)
		}
		r, _ := built.Call("=..", []api.Term{parts(n), v(0)}, 0)
		if told(r) != size != want {
			t.Error(n, r.Ok, r.Thrown)
		}
	}
	// Taking one apart, and copying it, makes nothing that is larger.
	whole, deep := parts(api.MaxNodes), nested(199, v(0))
	for _, x := range []api.Term{whole, deep} {
		comes(t, "copy_term", []api.Term{x, x}, 0, "yes "+text(x)+":"+text(x))
		comes(t, "=", []api.Term{x, x}, 0, "yes "+text(x)+":"+text(x))
		comes(t, "arg", []api.Term{i(1), x, x}, 0, "yes "+text(x)+":"+text(x.L[0]))
		comes(t, "==", []api.Term{x, x}, 0, "yes")
		comes(t, "\\=", []api.Term{x, x}, 0, "no")
		comes(t, "@=<", []api.Term{x, x}, 0, "yes")
	}
	// A list of the greatest size makes a compound.
	if r, _ := built.Call("=..", []api.Term{v(0), list(a("f"), nested(197, i(1)))}, 0); told(r) == size || !r.Ok {
		t.Error(told(r))
	}
}

// wideOf answers a term of just that many parts.
func wideOf(n int) api.Term {
	if n == 1 {
		return a("a")
	}
	var l []api.Term
	for n--; n > 0; {
		part := n
		if len(l) < 15 {
			part = (n + 15 - len(l)) / (16 - len(l))
		}
		l = append(l, wideOf(part))
		n -= part
	}
	return c("w", l...)
}

// P21.1: a ball tells the term that is wrong as it is, though the ball may be deeper than a term may be.
func TestDeepBalls(t *testing.T) {
	deep := nested(199, a("a"))
	for _, x := range []struct {
		name string
		l    []api.Term
		kind string
	}{
		{"functor", []api.Term{v(0), a("f"), deep}, "integer"},
		{"functor", []api.Term{v(0), deep, i(0)}, "atomic"},
		{"functor", []api.Term{v(0), deep, i(1)}, "atom"},
		{"arg", []api.Term{deep, v(0), v(0)}, "integer"},
		{"=..", []api.Term{v(0), deep}, "list"},
		{"atom_length", []api.Term{deep, v(0)}, "atom"},
	} {
		r, known := built.Call(x.name, x.l, 0)
		want := api.Result{Thrown: true, Ball: c("error", c("type", a(x.kind), deep))}
		if !known || !reflect.DeepEqual(r, want) {
			t.Error(x.name, x.kind, known, r.Ok, r.Thrown)
		}
	}
}

// Each list of arguments that is handed in has something else behind its end.
func roomy(x api.Term) api.Term {
	if x.L != nil {
		l := make([]api.Term, 0, len(x.L)+2)
		for _, arg := range x.L {
			l = append(l, roomy(arg))
		}
		copy(l[len(l):cap(l)], []api.Term{a("behind"), a("behind")})
		x.L = l
	}
	return x
}

// spoil lays something else into all lists of a term, and behind their ends.
func spoil(x api.Term) {
	l := x.L[:cap(x.L)]
	for j := range x.L {
		spoil(l[j])
	}
	for j := range l {
		l[j] = a("spoiled")
	}
}

// R3: what is handed in is not changed and not kept; what is answered shares nothing.
func TestOwnMemory(t *testing.T) {
	pair := c("p", c("q", v(0)), c("q", i(1)))
	for _, x := range []struct {
		name string
		l    []api.Term
	}{
		{"=", []api.Term{pair, pair}},
		{"copy_term", []api.Term{pair, pair}},
		{"functor", []api.Term{pair, pair, pair}},
		{"functor", []api.Term{v(0), a("f"), i(3)}},
		{"functor", []api.Term{v(0), pair, i(0)}},
		{"functor", []api.Term{v(0), a("f"), pair}},
		{"arg", []api.Term{i(1), pair, pair}},
		{"arg", []api.Term{pair, pair, pair}},
		{"=..", []api.Term{pair, pair}},
		{"=..", []api.Term{v(0), list(a("f"), pair, pair)}},
		{"=..", []api.Term{v(0), pair}},
		{"=..", []api.Term{v(0), list(pair)}},
		{"is", []api.Term{pair, i(1)}},
		{"is", []api.Term{pair, pair}},
		{"compare", []api.Term{pair, pair, pair}},
		{"atom_length", []api.Term{a("a"), pair}},
		{"atom_length", []api.Term{pair, pair}},
		{"\\=", []api.Term{pair, pair}},
		{"@<", []api.Term{pair, pair}},
		{"<", []api.Term{pair, pair}},
	} {
		first, _ := built.Call(x.name, x.l, 20)
		want := told(first)
		whole := roomy(c("l", x.l...))
		before := told(api.Result{Left: whole.L[:len(x.l)+1], Right: whole.L[:len(x.l)+1]})
		r, _ := built.Call(x.name, whole.L, 20)
		if after := told(api.Result{Left: whole.L[:len(x.l)+1], Right: whole.L[:len(x.l)+1]}); after != before {
			t.Error(x.name, "changed what was handed in")
		}
		spoil(whole)
		if got := told(r); got != want {
			t.Error(x.name, got, want)
		}
		// What one term has in its lists is no other one's.
		apart := append(append(slices.Clone(r.Left), r.Right...), r.Ball)
		texts := make([]string, len(apart))
		for j, y := range apart {
			texts[j] = text(y)
		}
		for j, y := range apart {
			for k, z := range apart {
				if k > j && text(z) != texts[k] || k < j && text(z) == texts[k] && len(z.L) > 0 {
					t.Error(x.name, "shares lists", j, k)
				}
			}
			spoil(y)
		}
		if again, _ := built.Call(x.name, x.l, 20); told(again) != want {
			t.Error(x.name, "keeps what was answered")
		}
	}
}

// P21.1: an empty list of arguments is as none.
func TestEmptyLists(t *testing.T) {
	empty := api.Term{Kind: api.KindAtom, S: "a", L: []api.Term{}}
	r, _ := built.Call("=", []api.Term{empty, {Kind: api.KindInt, L: []api.Term{}}}, 0)
	if told(r) != "yes a:0" {
		t.Error(told(r))
	}
	for _, l := range [][]api.Term{nil, {}} {
		if r, known := built.Call("var", l, 0); known || told(r) != "no" {
			t.Error(told(r), known)
		}
	}
}

// P21.2: what is told of a compound by functor and arg, or by =.., makes it again.
func TestMadeAgain(t *testing.T) {
	compounds := []api.Term{c("f", v(0)), list(a("f")), list(v(1), i(2)), c("", a("")), c("f", c("g", v(3), v(3)), v(0)), c("w", filled(16, v(2))...), wide(2, v(1)), nested(150, i(1)), c("[]", a("[]")), c(strings.Repeat("n", 64), i(-api.MaxInt))}
	for _, x := range compounds {
		r, _ := built.Call("=..", []api.Term{x, v(9)}, 10)
		r, _ = built.Call("=..", []api.Term{v(9), r.Right[0]}, 10)
		if !term.Same(r.Right[0], x) {
			t.Error(text(x), told(r))
		}
		r, _ = built.Call("functor", []api.Term{x, v(8), v(9)}, 10)
		made, _ := built.Call("functor", []api.Term{v(9), r.Right[0], r.Right[1]}, 10)
		again := made.Right[0]
		for j := range again.L {
			if again.L[j].N != 10+j {
				t.Error(text(again))
			}
			part, _ := built.Call("arg", []api.Term{i(j + 1), x, v(9)}, 10)
			again.L[j] = part.Right[0]
		}
		if !term.Same(again, x) {
			t.Error(text(x), text(again))
		}
		if part, _ := built.Call("arg", []api.Term{i(len(x.L) + 1), x, v(9)}, 10); told(part) != "no" {
			t.Error(told(part))
		}
	}
}
