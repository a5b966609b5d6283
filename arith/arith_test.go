package arith_test

import (
	"reflect"
	"strconv"
	"strings"
	"testing"

	"elenchus/api"
	"elenchus/arith"
	"elenchus/oper"
	"elenchus/parse"
	"elenchus/write"
)

// The terms of these tests are laid by hand, or read from texts.

func v(n int) api.Term    { return api.Term{Kind: api.KindVar, N: n} }
func i(n int) api.Term    { return api.Term{Kind: api.KindInt, N: n} }
func a(s string) api.Term { return api.Term{Kind: api.KindAtom, S: s} }
func c(s string, l ...api.Term) api.Term {
	return api.Term{Kind: api.KindComp, S: s, L: l}
}

// read answers the term of a text.
func read(t *testing.T, s string) api.Term {
	t.Helper()
	r, e := parse.One(s, oper.New())
	if e != api.OK {
		t.Fatal(s, e)
	}
	return r.Term
}

// text writes any value of api.Term, so that just those that are the same have the same text.
func text(t api.Term) string {
	var b strings.Builder
	b.WriteString(strconv.Itoa(t.Kind) + ":" + strconv.Itoa(t.N) + ":" + strconv.Quote(t.S))
	for _, arg := range t.L {
		b.WriteString("(" + text(arg) + ")")
	}
	return b.String()
}

// canon answers the term's canonical text; {} of no term.
func canon(t api.Term) string {
	if reflect.DeepEqual(t, api.Term{}) {
		return "{}"
	}
	s, e := write.Canon(t)
	if e != api.OK {
		return "wrong " + strconv.Itoa(int(e)) + ": " + text(t)
	}
	return s
}

// nested answers a term that many levels above the inner one.
func nested(levels int, name string, inner api.Term) api.Term {
	for range levels {
		inner = c(name, inner)
	}
	return inner
}

// wide answers a term of 2^levels leaves.
func wide(levels int, leaf api.Term) api.Term {
	if levels == 0 {
		return leaf
	}
	return c("+", wide(levels-1, leaf), wide(levels-1, leaf))
}

// endless answers a term that has itself as its first argument.
func endless() api.Term {
	l := make([]api.Term, 2)
	l[0], l[1] = c("+", l...), i(1)
	l[0].L = l
	return l[0]
}

// bad are terms that may not be.
func bad() map[string]api.Term {
	return map[string]api.Term{
		"nothing":                  {},
		"kind 5":                   {Kind: 5},
		"kind -1":                  {Kind: -1, S: "a"},
		"variable -1":              v(-1),
		"variable too great":       v(api.MaxVar),
		"integer too great":        i(api.MaxInt + 1),
		"integer too low":          i(-api.MaxInt - 1),
		"integer with a name":      {Kind: api.KindInt, N: 1, S: "a"},
		"atom too long":            a(strings.Repeat("a", 65)),
		"atom with an argument":    {Kind: api.KindAtom, S: "-", L: []api.Term{i(1)}},
		"atom with a number":       {Kind: api.KindAtom, S: "a", N: 1},
		"compound of no arguments": c("-"),
		"17 arguments":             c("+", make([]api.Term, 17)...),
		"compound with a number":   {Kind: api.KindComp, S: "-", N: 1, L: []api.Term{i(1)}},
		"wrong within":             c("+", v(0), c("-", api.Term{})),
		"wrong behind a ball":      c("+", a("foo"), i(api.MaxInt+1)),
		"wrong within what throws": c("foo", api.Term{}),
		"201 levels":               nested(200, "-", i(1)),
		"8191 parts":               wide(12, i(0)),
		"2^201 parts":              shared(200, i(0)),
		"endless":                  endless(),
	}
}

// shared answers a term like wide, all lists of one level being the same one.
func shared(levels int, leaf api.Term) api.Term {
	for range levels {
		leaf = c("+", leaf, leaf)
	}
	return leaf
}

// evals checks what a term comes to: its number's digits, or the ball's text.
func evals(t *testing.T, x api.Term, want string) {
	t.Helper()
	n, ball, ok := arith.Eval(x)
	got := strconv.Itoa(n)
	if !ok {
		got = canon(ball)
	}
	if got != want || ok && !reflect.DeepEqual(ball, api.Term{}) || !ok && n != 0 {
		t.Errorf("Eval(%.80s) = %d, %s, %v, not %s", text(x), n, canon(ball), ok, want)
	}
}

// P13.1: numbers, with the example.
func TestEvalNumbers(t *testing.T) {
	for s, want := range map[string]string{
		"0":                                      "0",
		"7":                                      "7",
		"-7":                                     "-7",
		"9007199254740991":                       "9007199254740991",
		"-9007199254740991":                      "-9007199254740991",
		"-7 // 2":                                "-3",
		"-7 rem 2":                               "-1",
		"-7 mod 2":                               "1",
		"7 // 2":                                 "3",
		"7 rem 2":                                "1",
		"7 mod 2":                                "1",
		"7 // -2":                                "-3",
		"7 rem -2":                               "1",
		"7 mod -2":                               "-1",
		"-7 // -2":                               "3",
		"-7 rem -2":                              "-1",
		"-7 mod -2":                              "-1",
		"6 mod -3":                               "0",
		"-6 mod 3":                               "0",
		"0 mod -3":                               "0",
		"0 // 5":                                 "0",
		"1 mod 5":                                "1",
		"-1 mod 5":                               "4",
		"1 mod -5":                               "-4",
		"-1 // 5":                                "0",
		"-1 rem 5":                               "-1",
		"1 + 2 * 3":                              "7",
		"(1 + 2) * 3":                            "9",
		"1 - 2 - 3":                              "-4",
		"1 - (2 - 3)":                            "2",
		"- (1)":                                  "-1",
		"- (-1)":                                 "1",
		"- (0)":                                  "0",
		"- (- (3))":                              "3",
		"abs(-5)":                                "5",
		"abs(5)":                                 "5",
		"abs(0)":                                 "0",
		"sign(-5)":                               "-1",
		"sign(5)":                                "1",
		"sign(0)":                                "0",
		"sign(9007199254740991)":                 "1",
		"min(3, -4)":                             "-4",
		"min(-4, 3)":                             "-4",
		"max(3, -4)":                             "3",
		"max(-4, 3)":                             "3",
		"min(2, 2)":                              "2",
		"max(abs(-3), min(2, 9)) * sign(-8)":     "-3",
		"-9007199254740991 // -1":                "9007199254740991",
		"9007199254740991 // -1":                 "-9007199254740991",
		"- (-9007199254740991)":                  "9007199254740991",
		"abs(-9007199254740991)":                 "9007199254740991",
		"9007199254740990 + 1":                   "9007199254740991",
		"-9007199254740990 - 1":                  "-9007199254740991",
		"6361 * 1416003655831":                   "9007199254740991",
		"-6361 * 1416003655831":                  "-9007199254740991",
		"-9007199254740991 rem -1":               "0",
		"-9007199254740991 mod -1":               "0",
		"9007199254740990 mod -9007199254740991": "-1",
		"-9007199254740990 mod 9007199254740991": "1",
		"17 - 5 * 3 // 2 mod 4 rem 2":            "16",
	} {
		evals(t, read(t, s), want)
	}
}

// P13.1: the balls of what is no expression, and of operations that have no result; which is met first.
func TestEvalBalls(t *testing.T) {
	const inst, zero, over = "error(inst)", "error(eval(zero))", "error(eval(over))"
	of := func(what string) string { return "error(type(evaluable,/(" + what + ")))" }
	for s, want := range map[string]string{
		"X":                                     inst,
		"a":                                     of("a,0"),
		"[]":                                    of("[],0"),
		"''":                                    of("'',0"),
		"abs":                                   of("abs,0"),
		"-":                                     of("-,0"),
		"foo(1)":                                of("foo,1"),
		"foo(X)":                                of("foo,1"),
		"foo(1 // 0, X, a)":                     of("foo,3"),
		"[1]":                                   of("'.',2"),
		"1 / 2":                                 of("/,2"),
		"2 ^ 3":                                 of("^,2"),
		"'+'(1)":                                of("+,1"),
		"+(1, 2, 3)":                            of("+,3"),
		"-(1, 2, 3)":                            of("-,3"),
		"*(1)":                                  of("*,1"),
		"//(1)":                                 of("//,1"),
		"mod(1)":                                of("mod,1"),
		"rem(1, 2, 3)":                          of("rem,3"),
		"min(1)":                                of("min,1"),
		"max(1, 2, 3)":                          of("max,3"),
		"abs(1, 2)":                             of("abs,2"),
		"sign(1, 2)":                            of("sign,2"),
		"'Abs'(1)":                              of("'Abs',1"),
		"{1}":                                   of("{},1"),
		"f(1,2,3,4,5,6,7,8,9,1,2,3,4,5,6,7)":    of("f,16"),
		"1 // 0":                                zero,
		"0 // 0":                                zero,
		"1 mod 0":                               zero,
		"1 rem 0":                               zero,
		"1 // (2 - 2)":                          zero,
		"-9007199254740991 rem (1 - 1)":         zero,
		"0 * (1 mod 0)":                         zero,
		"9007199254740991 + 1":                  over,
		"1 + 9007199254740991":                  over,
		"-9007199254740991 - 1":                 over,
		"-9007199254740991 + -1":                over,
		"9007199254740991 - -1":                 over,
		"2 * 4503599627370496":                  over,
		"4503599627370496 * -2":                 over,
		"-4503599627370496 * -2":                over,
		"4294967296 * 4294967296":               over,
		"9007199254740991 * 9007199254740991":   over,
		"-9007199254740991 * 9007199254740991":  over,
		"9007199254740991 * 2048":               over,
		"-9007199254740991 * -9007199254740991": over,
		"6361 * 1416003655832":                  over,
		"9007199254740991 + 1 - 1":              over,
		"(9007199254740991 + 1) * 0":            over,
		"X + a":                                 inst,
		"a + X":                                 of("a,0"),
		"X // 0":                                inst,
		"1 // 0 + X":                            zero,
		"X + 1 // 0":                            inst,
		"foo(X) + 1 // 0":                       of("foo,1"),
		"1 // 0 + 9007199254740991 * 2":         zero,
		"9007199254740991 * 2 + 1 // 0":         over,
		"9007199254740991 * 2 // 0":             over,
		"(1 + X) // 0":                          inst,
		"(1 + a) * X":                           of("a,0"),
		"1 + (2 + (3 + a)) + X":                 of("a,0"),
		"- X":                                   inst,
		"- a":                                   of("a,0"),
		"abs(foo(a))":                           of("foo,1"),
		"sign(1 // 0)":                          zero,
		"max(1, X)":                             inst,
		"min(a, X)":                             of("a,0"),
		"-(-9007199254740991 - 1)":              over,
	} {
		evals(t, read(t, s), want)
	}
	evals(t, a(strings.Repeat("a", 64)), of(strings.Repeat("a", 64)+",0"))
	evals(t, v(api.MaxVar-1), inst)
}

// P13.1: of all names near those of operations, and all arities, just the operations are some.
func TestOperations(t *testing.T) {
	is := map[string]bool{"-/1": true, "abs/1": true, "sign/1": true}
	for _, name := range []string{"+", "-", "*", "//", "mod", "rem", "min", "max"} {
		is[name+"/2"] = true
	}
	for _, name := range strings.Fields("+ - * / // \\ /\\ \\/ ** ^ >> << mod rem div min max abs sign succ plus Mod ABS add sub mul neg gcd inc e pi random is =:= < ++ -- , ; . [] {} true call error inst zero") {
		for arity := 1; arity <= api.MaxArity; arity++ {
			l := make([]api.Term, arity)
			for j := range l {
				l[j] = i(1)
			}
			_, ball, ok := arith.Eval(c(name, l...))
			if ok != is[name+"/"+strconv.Itoa(arity)] {
				t.Errorf("%s/%d: %v, %s", name, arity, ok, canon(ball))
			}
			if want := c("error", c("type", a("evaluable"), c("/", a(name), i(arity)))); !ok && !reflect.DeepEqual(ball, want) {
				t.Errorf("%s/%d: %s", name, arity, text(ball))
			}
		}
		evals(t, a(name), canon(c("error", c("type", a("evaluable"), c("/", a(name), i(0))))))
	}
}

// P13.1: what may not be, and what just may.
func TestEvalLimits(t *testing.T) {
	for what, x := range bad() {
		if n, ball, ok := arith.Eval(x); ok || n != 0 || canon(ball) != "error(size)" {
			t.Errorf("%s: %d, %s, %v", what, n, canon(ball), ok)
		}
	}
	evals(t, nested(199, "-", i(8)), "-8")
	evals(t, nested(198, "-", i(8)), "8")
	evals(t, nested(199, "abs", v(0)), "error(inst)")
	evals(t, wide(11, i(3)), "6144")
	evals(t, shared(11, i(-3)), "-6144")
	evals(t, c("abs", wide(11, i(-1))), "2048")
	evals(t, c("+", i(1), i(2)), "3")
	evals(t, api.Term{Kind: api.KindInt, N: 4, L: []api.Term{}}, "4")
}

// P13.2: numbers that are held against each other, and what is thrown ahead of that.
func TestCompare(t *testing.T) {
	edges := []int{-api.MaxInt, -api.MaxInt + 1, -2, -1, 0, 1, 2, api.MaxInt - 1, api.MaxInt}
	for _, x := range edges {
		for _, y := range edges {
			for op, want := range map[string]bool{
				"=:=": x == y, "=\\=": x != y, "<": x < y, ">": x > y, "=<": x <= y, ">=": x >= y,
				"": false, "=": false, "==": false, "<=": false, "=>": false, "\\=": false, "@<": false, "is": false, " <": false, "=:=\x00": false, "=\\\\=": false,
			} {
				if holds, ball, ok := arith.Compare(op, i(x), i(y)); holds != want || !ok || !reflect.DeepEqual(ball, api.Term{}) {
					t.Errorf("%d %s %d: %v, %s, %v", x, op, y, holds, canon(ball), ok)
				}
			}
		}
	}
	for s, want := range map[string]bool{"1 + 2 =:= 3": true, "1 + 2 =\\= 3": false, "2 * 3 < 7 mod 4": false, "7 mod 4 < 2 * 3": true, "- (3) >= abs(-3)": false, "7 // 2 =< 3": true, "3 > max(1, 2)": true} {
		x := read(t, s)
		if holds, ball, ok := arith.Compare(x.S, x.L[0], x.L[1]); holds != want || !ok || !reflect.DeepEqual(ball, api.Term{}) {
			t.Errorf("%s: %v, %s, %v", s, holds, canon(ball), ok)
		}
	}
}

// P13.2: the first ball is told; of what is no relation nothing is reckoned.
func TestCompareBalls(t *testing.T) {
	ops := []string{"=:=", "=\\=", "<", ">", "=<", ">="}
	for _, k := range []struct {
		a, b api.Term
		want string
	}{
		{v(0), i(1), "error(inst)"},
		{i(1), v(0), "error(inst)"},
		{v(0), a("a"), "error(inst)"},
		{a("a"), v(0), "error(type(evaluable,/(a,0)))"},
		{a("a"), a("b"), "error(type(evaluable,/(a,0)))"},
		{i(1), a("b"), "error(type(evaluable,/(b,0)))"},
		{c("//", i(1), i(0)), c("+", i(api.MaxInt), i(1)), "error(eval(zero))"},
		{c("+", i(api.MaxInt), i(1)), c("//", i(1), i(0)), "error(eval(over))"},
		{c("+", i(api.MaxInt), i(1)), i(1), "error(eval(over))"},
		{api.Term{}, v(0), "error(size)"},
		{v(0), api.Term{}, "error(inst)"},
		{i(0), api.Term{}, "error(size)"},
		{endless(), endless(), "error(size)"},
		{nested(200, "-", i(0)), i(0), "error(size)"},
	} {
		for _, op := range ops {
			if holds, ball, ok := arith.Compare(op, k.a, k.b); holds || ok || canon(ball) != k.want {
				t.Errorf("%.80s %s %.80s: %v, %s, %v, not %s", text(k.a), op, text(k.b), holds, canon(ball), ok, k.want)
			}
		}
		if holds, ball, ok := arith.Compare("==", k.a, k.b); holds || !ok || !reflect.DeepEqual(ball, api.Term{}) {
			t.Errorf("another relation: %v, %s, %v", holds, canon(ball), ok)
		}
	}
}

// P13.1: balls of any number of terms, whether these may be, or not.
func TestError(t *testing.T) {
	inst := c("error", a("inst"))
	for _, l := range [][]api.Term{nil, {}, {i(1), i(2)}, {a("inst"), a("inst"), a("inst")}, make([]api.Term, 5), {v(0), {}}} {
		if ball := arith.Error(l...); !reflect.DeepEqual(ball, inst) {
			t.Errorf("of %d terms: %s", len(l), text(ball))
		}
	}
	for _, x := range []api.Term{i(-1), v(3), a("size"), c("error", c("f", v(0), v(1))), {}, {Kind: 9}, nested(200, "s", i(1)), a(strings.Repeat("a", 65))} {
		if ball := arith.Error(x); !reflect.DeepEqual(ball, c("error", x)) {
			t.Errorf("of %.80s: %.80s", text(x), text(ball))
		}
		for _, name := range []string{"list", "", "Type 1", strings.Repeat("a", 65)} {
			if ball := arith.Type(name, x); !reflect.DeepEqual(ball, c("error", c("type", a(name), x))) {
				t.Errorf("%s of %.80s: %.80s", name, text(x), text(ball))
			}
		}
	}
}

// P13.1: name and arity.
func TestIndicator(t *testing.T) {
	for s, want := range map[string]string{
		"a":                                  "/(a,0)",
		"[]":                                 "/([],0)",
		"''":                                 "/('',0)",
		"f(X)":                               "/(f,1)",
		"f(1, 2, 3)":                         "/(f,3)",
		"[1, 2]":                             "/('.',2)",
		"a / 0":                              "/(/,2)",
		"a :- b":                             "/(:-,2)",
		"f(1,2,3,4,5,6,7,8,9,1,2,3,4,5,6,7)": "/(f,16)",
		"X":                                  "{}",
		"1":                                  "{}",
		"-1":                                 "{}",
	} {
		x := read(t, s)
		if got := arith.Indicator(x); canon(got) != want {
			t.Errorf("%s: %s", s, text(got))
		}
	}
	for what, x := range bad() {
		if got := arith.Indicator(x); !reflect.DeepEqual(got, api.Term{}) {
			t.Errorf("%s: %.80s", what, text(got))
		}
	}
	if got := arith.Indicator(nested(199, "s", v(0))); canon(got) != "/(s,1)" {
		t.Error(text(got))
	}
}

// spoil changes all parts of an answer.
func spoil(t api.Term) {
	for j := range t.L {
		spoil(t.L[j])
		t.L[j] = a("spoiled")
	}
}

// R3: what is handed in is not changed, and not shared with what is answered; nor is what lies behind a list's end.
func TestOwnMemory(t *testing.T) {
	row := []api.Term{c("g", i(1)), v(2), {Kind: 77}}
	x := c("f", row[:2]...)
	given := []api.Term{x, c("+", x, v(0)), v(1), c("//", i(1), i(0)), {}}
	before, behind := text(c("", given...)), text(c("", row...))
	for _, call := range []func(y api.Term) api.Term{
		func(y api.Term) api.Term { return arith.Error(y) },
		func(y api.Term) api.Term { return arith.Error(given[:1]...) },
		func(y api.Term) api.Term { return arith.Error(given...) },
		func(y api.Term) api.Term { return arith.Type("t", y) },
		arith.Indicator,
		func(y api.Term) api.Term { _, ball, _ := arith.Eval(y); return ball },
		func(y api.Term) api.Term { _, ball, _ := arith.Compare("<", i(1), y); return ball },
	} {
		for _, y := range given {
			first, second := call(y), call(y)
			want := text(second)
			spoil(first)
			if text(second) != want {
				t.Error("two answers share:", want)
			}
			if text(c("", given...)) != before || text(c("", row...)) != behind {
				t.Fatal("what was handed in has changed:", text(c("", given...)))
			}
		}
	}
}
