package parse_test

import (
	"slices"
	"strconv"
	"strings"
	"testing"

	"elenchus/api"
	"elenchus/oper"
	"elenchus/parse"
	"elenchus/term"
	"elenchus/token"
)

// show answers the term as text, in which no two terms are alike: a variable is a _ and its number; a compound is its name and its arguments between brackets, a blank ahead of each; a name that is not plain, nor a comma, is between quotes.
func show(x api.Term) string {
	name := x.S
	if !token.Plain(name) && name != "," {
		name = strconv.Quote(name)
	}
	switch x.Kind {
	case api.KindVar:
		return "_" + strconv.Itoa(x.N)
	case api.KindInt:
		return strconv.Itoa(x.N)
	case api.KindAtom:
		return name
	case api.KindComp:
		var s strings.Builder
		s.WriteString("(" + name)
		for _, arg := range x.L {
			s.WriteString(" " + show(arg))
		}
		return s.String() + ")"
	}
	return "?"
}

// ops answers a table with some operators more, of each type one that a higher, an equal and a lower one of that type stand beside; with some that are infix and prefix, and with prefix ones of a great precedence.
func ops(t *testing.T) *oper.Table {
	t.Helper()
	table := oper.New()
	for _, o := range []api.Op{
		{Prec: 300, Type: api.OpXfx, Name: "xx"}, {Prec: 300, Type: api.OpXfy, Name: "xy"}, {Prec: 300, Type: api.OpYfx, Name: "yx"},
		{Prec: 300, Type: api.OpFy, Name: "fy"}, {Prec: 300, Type: api.OpFx, Name: "fx"},
		{Prec: 299, Type: api.OpXfx, Name: "lxx"}, {Prec: 299, Type: api.OpXfy, Name: "lxy"}, {Prec: 299, Type: api.OpYfx, Name: "lyx"},
		{Prec: 299, Type: api.OpFy, Name: "lfy"}, {Prec: 299, Type: api.OpFx, Name: "lfx"},
		{Prec: 1, Type: api.OpXfx, Name: "one"}, {Prec: 1, Type: api.OpFx, Name: "onefx"},
		{Prec: 300, Type: api.OpYfx, Name: "both"}, {Prec: 300, Type: api.OpFy, Name: "both"},
		{Prec: 1000, Type: api.OpFy, Name: "wide"}, {Prec: 999, Type: api.OpFy, Name: "close"},
	} {
		if e := table.Set(o); e != api.OK {
			t.Fatal(o, e)
		}
	}
	return table
}

// answers checks what Clause answers of the text, from that place on.
func answers(t *testing.T, text string, at int, table *oper.Table, want string, names []string, next int, wrong api.Errno) {
	t.Helper()
	r, n, e := parse.Clause([]byte(text), at, table)
	if e != wrong || n != next {
		t.Errorf("Clause(%.200q, %d) = %.200s, %d, %d, not %d, %d", text, at, show(r.Term), n, e, next, wrong)
		return
	}
	if wrong != api.OK {
		if !nothing(r) {
			t.Errorf("Clause(%.200q, %d) answers %v beside %d", text, at, r, e)
		}
		return
	}
	if got := show(r.Term); got != want || !slices.Equal(r.Names, names) || r.Next != next || term.Check(r.Term) != api.OK {
		t.Errorf("Clause(%.200q, %d) = %.200s, %q, %d, not %.200s, %q, %d", text, at, got, r.Names, r.Next, want, names, next)
	}
}

// nothing tells whether it is what is answered beside an error.
func nothing(r api.Read) bool {
	return r.Term.Kind == 0 && r.Term.N == 0 && r.Term.S == "" && len(r.Term.L) == 0 && len(r.Names) == 0 && r.Next == 0
}

// reads checks that the text, behind which a point is put, is that term with these variables: alone, as one of several clauses, and as one clause without its point.
func reads(t *testing.T, text, want string, names ...string) {
	t.Helper()
	table := ops(t)
	clause := text + " ."
	answers(t, clause, 0, table, want, names, len(clause), api.OK)
	answers(t, "(X). "+clause+" )", 4, table, want, names, 4+len(clause)+1, api.OK)
	r, e := parse.One(text, table)
	if e != api.OK || show(r.Term) != want || !slices.Equal(r.Names, names) || r.Next != len(clause) {
		t.Errorf("One(%.200q) = %.200s, %q, %d, %d", text, show(r.Term), r.Names, r.Next, e)
	}
	// A clause in brackets is the same.
	answers(t, "("+text+" ).", 0, table, want, names, len(text)+4, api.OK)
}

// refuses checks that the text, behind which a point is put, is refused because of what stands at that place.
func refuses(t *testing.T, text string, at int, wrong api.Errno) {
	t.Helper()
	table := ops(t)
	clause := text + " ."
	answers(t, clause, 0, table, "", nil, at, wrong)
	answers(t, "(X). "+clause+" ) .", 4, table, "", nil, 5+at, wrong)
	if r, e := parse.One(text, table); e != wrong || !nothing(r) {
		t.Errorf("One(%.200q) = %v, %d, not %d", text, r, e, wrong)
	}
	l, n, e := parse.All([]byte("a. f(X, Y) . "+clause+" b. "), table)
	if e != wrong || n != 13+at || len(l) != 2 || show(l[0].Term) != "a" || l[0].Next != 2 || show(l[1].Term) != "(f _0 _1)" || l[1].Next != 12 || len(l[1].Names) != 2 {
		t.Errorf("All(a. f(X, Y) . %.200q b.) = %v, %d, %d", clause, l, n, e)
	}
}

// stray checks that the text is refused by the grammar because of what stands behind the sign ¶ in it (which is taken out): the point, if nothing does.
func stray(t *testing.T, text string) {
	t.Helper()
	ahead, behind, _ := strings.Cut(text, "¶")
	at := len(ahead)
	if behind == "" {
		at++
	}
	refuses(t, ahead+behind, at, api.ErrSyntax)
}

// P10.1: texts with no clause, and places from which may not be looked.
func TestNoClause(t *testing.T) {
	table := oper.New()
	for _, text := range []string{"", " ", "\n\t\r ", "%", "% a. \n", "/* a. */", " /**/%"} {
		answers(t, text, 0, table, "", nil, len(text), api.ErrNone)
		answers(t, text, len(text), table, "", nil, len(text), api.ErrNone)
		answers(t, "a. "+text, 2, table, "", nil, 3+len(text), api.ErrNone)
	}
	for _, text := range []string{"", "a", "a.", "'", ") .", "a. b."} {
		for _, at := range []int{-1, -2, -1 << 63, len(text) + 1, len(text) + 2, 1<<63 - 1} {
			answers(t, text, at, table, "", nil, 0, api.ErrArg)
		}
		answers(t, text, len(text), table, "", nil, len(text), api.ErrNone)
	}
	answers(t, "a. b. c.", 0, table, "a", nil, 2, api.OK)
	answers(t, "a. b. c.", 2, table, "b", nil, 5, api.OK)
	answers(t, "a. b. c.", 3, table, "b", nil, 5, api.OK)
	answers(t, "a. b. c.", 5, table, "c", nil, 8, api.OK)
	// From within a token on it is another one.
	answers(t, "foo(X). b.", 2, table, "(o _0)", []string{"X"}, 7, api.OK)
	answers(t, "foo(X). b.", 5, table, "", nil, 5, api.ErrSyntax)
	answers(t, "- 1. b.", 1, table, "1", nil, 4, api.OK)
}

// P10.1: a point alone, and texts without one.
func TestPoint(t *testing.T) {
	table := oper.New()
	for _, text := range []string{".", ". ", " .", "\n. a.", ".%"} {
		answers(t, text, 0, table, "", nil, strings.Index(text, "."), api.ErrSyntax)
	}
	// That there is no point is told ahead of what the grammar refuses, but behind what Scan does.
	for _, text := range []string{"a", "a ", "a %.", "a /* . */", ")", "a b", "f(", "f(a", "'a.'", "[a.b", "a.b", "a..", "X", "1", "a :- b,", ") ) \n", "1.5"} {
		answers(t, text, 0, table, "", nil, len(text), api.ErrEnd)
		answers(t, "a. "+text, 2, table, "", nil, 3+len(text), api.ErrEnd)
		l, n, e := parse.All([]byte("a. "+text), table)
		if len(l) != 1 || n != 3+len(text) || e != api.ErrEnd {
			t.Error(text, l, n, e)
		}
	}
}

// P10.1: no table, whatever else is wrong.
func TestNoTable(t *testing.T) {
	for _, text := range []string{"", "a.", "a", ") .", "'", strings.Repeat("a", 1<<16+1)} {
		for _, at := range []int{-1, 0, len(text), len(text) + 1} {
			answers(t, text, at, nil, "", nil, 0, api.ErrArg)
		}
		if l, n, e := parse.All([]byte(text), nil); len(l) != 0 || n != 0 || e != api.ErrArg {
			t.Error(l, n, e)
		}
		if r, e := parse.One(text, nil); !nothing(r) || e != api.ErrArg {
			t.Error(r, e)
		}
	}
}

// P10.1: what Scan refuses of a clause's tokens, ahead of what the grammar does; not what it refuses behind them.
func TestScanErrors(t *testing.T) {
	table := oper.New()
	for text, wrong := range map[string]api.Errno{
		"'a":                                   api.ErrToken,
		"'a\n'":                                api.ErrToken,
		`'\q'`:                                 api.ErrToken,
		"\"a\"":                                api.ErrToken,
		"\x00":                                 api.ErrToken,
		"é":                                    api.ErrToken,
		"/* a":                                 api.ErrToken,
		"9007199254740992":                     api.ErrRange,
		"99999999999999999999":                 api.ErrRange,
		strings.Repeat("a", 65):                api.ErrLong,
		"A" + strings.Repeat("a", 64):          api.ErrLong,
		"'" + strings.Repeat("a", 65) + "'":    api.ErrLong,
		strings.Repeat("+", 65):                api.ErrLong,
		"'" + strings.Repeat(`\x1\`, 65) + "'": api.ErrLong,
	} {
		for _, ahead := range []string{"", " ", "a :- ", "f(X, ", ") ", "a b ", "- ", "f(" + strings.Repeat("a, ", 17)} {
			for _, behind := range []string{"", " .", " ) .", " b. c."} {
				answers(t, ahead+text+behind, 0, table, "", nil, len(ahead), wrong)
				answers(t, "a. "+ahead+text+behind, 2, table, "", nil, 3+len(ahead), wrong)
				l, n, e := parse.All([]byte("a. X = Y. "+ahead+text+behind), table)
				if len(l) != 2 || n != 10+len(ahead) || e != wrong {
					t.Error(ahead, text, behind, l, n, e)
				}
			}
		}
		answers(t, "f(X) . "+text, 0, table, "(f _0)", []string{"X"}, 6, api.OK)
		answers(t, "f X . "+text, 0, table, "", nil, 2, api.ErrSyntax)
		if r, e := parse.One("f( "+text, table); !nothing(r) || e != wrong {
			t.Error(text, r, e)
		}
	}
}

// P10.1: a text that is too long, and one that just is not.
func TestLongText(t *testing.T) {
	table := oper.New()
	const most = 65536
	fits := strings.Repeat(" ", most-2) + "a."
	answers(t, fits, 0, table, "a", nil, most, api.OK)
	answers(t, " "+fits, 0, table, "", nil, 0, api.ErrLong)
	answers(t, "a. "+fits, 0, table, "", nil, 0, api.ErrLong)
	answers(t, "a. "+fits, -1, table, "", nil, 0, api.ErrLong)
	if l, n, e := parse.All([]byte("a. "+fits), table); len(l) != 0 || n != 0 || e != api.ErrLong {
		t.Error(l, n, e)
	}
	if r, e := parse.One(strings.Repeat(" ", most-3)+"a", table); show(r.Term) != "a" || r.Next != most || e != api.OK {
		t.Error(r, e)
	}
	for _, n := range []int{most - 2, most - 1, most, most + 1, 2 * most} {
		for _, text := range []string{strings.Repeat(" ", n) + "a", "a. b. " + strings.Repeat(" ", n), "a" + strings.Repeat("'", n)} {
			if r, e := parse.One(text, table); !nothing(r) || e != api.ErrLong {
				t.Error(n, r, e)
			}
		}
	}
}

// P10.1: each kind of operand.
func TestOperands(t *testing.T) {
	reads(t, "0", "0")
	reads(t, "42", "42")
	reads(t, "007", "7")
	reads(t, "X", "_0", "X")
	reads(t, "_", "_0", "_")
	reads(t, "_x1", "_0", "_x1")
	reads(t, "a", "a")
	reads(t, "aB_1", "aB_1")
	reads(t, "'a'", "a")
	reads(t, "''", `""`)
	reads(t, "'A b'", `"A b"`)
	reads(t, `'it''s\n'`, `"it's\n"`)
	reads(t, "','", ",")
	reads(t, "'.'", `"."`)
	reads(t, "'[]'", "[]")
	reads(t, "'_0'", `"_0"`)
	reads(t, "'1'", `"1"`)
	reads(t, "!", "!")
	reads(t, ";", ";")
	reads(t, "+", "+")
	reads(t, ":-", ":-")
	reads(t, "=", "=")
	reads(t, "mod", "mod")
	reads(t, "-", "-")
	reads(t, `\+`, `\+`)
	reads(t, "...", "...")
	reads(t, "[]", "[]")
	reads(t, "{}", "{}")
	reads(t, "(a)", "a")
	reads(t, "((X))", "_0", "X")
	reads(t, "((((1))))", "1")
	reads(t, "(- 1)", "(- 1)")
	reads(t, "(a , b)", "(, a b)")
	reads(t, "(:-)", ":-")
	stray(t, "¶)")
	stray(t, "¶]")
	stray(t, "¶}")
	stray(t, "¶,")
	stray(t, "¶|")
	stray(t, "¶")
	stray(t, "a ¶b")
	stray(t, "a ¶1")
	stray(t, "a ¶X")
	stray(t, "a ¶'b'")
	stray(t, "a ¶'=' b")
	stray(t, "a ¶'mod' b")
	stray(t, "X ¶Y")
	stray(t, "X¶(a)")
	stray(t, "X ¶(a)")
	stray(t, "1¶(a)")
	stray(t, "1 ¶2")
	stray(t, "a ¶)")
	stray(t, "a¶]")
	stray(t, "a ¶}")
	stray(t, "a¶|b")
	stray(t, "a ¶[]")
	stray(t, "[] ¶[]")
	stray(t, "[]¶{}")
	stray(t, "'a' ¶(b)")
	stray(t, "(¶)")
	stray(t, "(¶")
	stray(t, "(a¶")
	stray(t, "(a¶]")
	stray(t, "(a¶}")
	stray(t, "(a ¶b)")
	stray(t, "(a)¶(b)")
	stray(t, "(a¶|b)")
	stray(t, "(¶, a)")
	stray(t, "(a)¶)")
}

// P10.1: names that open arguments, and such as do not.
func TestArguments(t *testing.T) {
	reads(t, "f(a)", "(f a)")
	reads(t, "f( a )", "(f a)")
	reads(t, "f(a,b)", "(f a b)")
	reads(t, "f(a , X,1, Y , X)", "(f a _0 1 _1 _0)", "X", "Y")
	reads(t, "'f g'(a)", `("f g" a)`)
	reads(t, "''(a)", `("" a)`)
	reads(t, "','(a, b)", "(, a b)")
	reads(t, "[](a)", "([] a)")
	reads(t, "[ ](a)", "([] a)")
	reads(t, "{}(a)", "({} a)")
	reads(t, "{ }(a, b)", "({} a b)")
	reads(t, "!(a)", "(! a)")
	reads(t, ";(a)", "(; a)")
	reads(t, "+(a)", "(+ a)")
	reads(t, "=(a, b)", "(= a b)")
	reads(t, "-(1)", "(- 1)")
	reads(t, "-(1, 2)", "(- 1 2)")
	reads(t, `\+(a, b)`, `(\+ a b)`)
	reads(t, `\+ (a, b)`, `(\+ (, a b))`)
	reads(t, ":-(a)", "(:- a)")
	reads(t, "'-'(1)", "(- 1)")
	reads(t, "f(g(h(a)), g(b))", "(f (g (h a)) (g b))")
	reads(t, "f((a, b))", "(f (, a b))")
	reads(t, "f((a :- b), c)", "(f (:- a b) c)")
	reads(t, "f(a = b, - c)", "(f (= a b) (- c))")
	reads(t, "f(:-)", "(f :-)")
	reads(t, "f(:-, ',', ;, -, =)", "(f :- , ; - =)")
	reads(t, "f(;)", "(f ;)")
	reads(t, "f([a], {b}, (c))", `(f ("." a []) ({} b) c)`)
	stray(t, "f ¶(a)")
	stray(t, "'f' ¶(a)")
	stray(t, "[] ¶(a)")
	stray(t, "{}/* */¶(a)")
	stray(t, "! ¶(a)")
	stray(t, "+ ¶(a)")
	stray(t, "f(a)¶(b)")
	stray(t, "X¶(a)")
	stray(t, "f(¶)")
	stray(t, "f(¶,a)")
	stray(t, "f(a,¶)")
	stray(t, "f(a,¶,b)")
	stray(t, "f(a¶")
	stray(t, "f(a ¶b)")
	stray(t, "f(a¶|b)")
	stray(t, "f(a¶]")
	stray(t, "f(a, b¶}")
	stray(t, "f(¶")
	stray(t, "f(a,¶")
	stray(t, "f(a ¶:- b)")
	stray(t, "f(a ¶; b)")
	stray(t, "f(a ¶-> b)")
	stray(t, "f(:- ¶a)")
}

// P10.1: as many arguments as there may be, and one more: the comma ahead of that one may not stand there.
func TestMostArguments(t *testing.T) {
	for n := 1; n <= 18; n++ {
		for _, name := range []string{"f", "'f'", "[]", "{ }", "-", "="} {
			ahead := name + "("
			text := ahead + strings.Repeat("a, ", n-1) + "b"
			if n <= 16 {
				shown := strings.NewReplacer("'", "", " ", "").Replace(name)
				reads(t, text+")", "("+shown+strings.Repeat(" a", n-1)+" b)")
				continue
			}
			comma := len(ahead) + 3*15 + 1
			refuses(t, text+")", comma, api.ErrSyntax)
			refuses(t, text, comma, api.ErrSyntax)
			refuses(t, ahead+strings.Repeat("a, ", n-1)+")", comma, api.ErrSyntax)
		}
	}
	// A list, and a term with commas, has as many as fit.
	for _, n := range []int{15, 16, 17, 18, 199} {
		reads(t, "["+strings.Repeat("a, ", n-1)+"b]", strings.Repeat(`("." a `, n-1)+`("." b []`+strings.Repeat(")", n))
		reads(t, strings.Repeat("a, ", n-1)+"b", strings.Repeat("(, a ", n-1)+"b"+strings.Repeat(")", n-1))
		reads(t, "f(["+strings.Repeat("a, ", min(n, 100)-1)+"b], c)", "(f "+strings.Repeat(`("." a `, min(n, 100)-1)+`("." b []`+strings.Repeat(")", min(n, 100))+" c)")
	}
}

// P10.1: a - ahead of a number, with and without layout, as an operand and between two.
func TestMinus(t *testing.T) {
	reads(t, "-1", "-1")
	reads(t, "-0", "0")
	reads(t, "-007", "-7")
	reads(t, "- 1", "(- 1)")
	reads(t, "- /**/1", "(- 1)")
	reads(t, "-%\n1", "(- 1)")
	reads(t, "-\n1", "(- 1)")
	reads(t, "- -1", "(- -1)")
	reads(t, "- - 1", "(- (- 1))")
	reads(t, "-(1)", "(- 1)")
	reads(t, "- (1)", "(- 1)")
	reads(t, "-(-1)", "(- -1)")
	reads(t, "-a", "(- a)")
	reads(t, "-X", "(- _0)", "X")
	reads(t, "-'1'", `(- "1")`)
	reads(t, "-[1]", `(- ("." 1 []))`)
	reads(t, "a-1", "(- a 1)")
	reads(t, "a -1", "(- a 1)")
	reads(t, "a - 1", "(- a 1)")
	reads(t, "a- 1", "(- a 1)")
	reads(t, "a - -1", "(- a -1)")
	reads(t, "a - - 1", "(- a (- 1))")
	reads(t, "1-1", "(- 1 1)")
	reads(t, "1 - 1", "(- 1 1)")
	reads(t, "-1-1", "(- -1 1)")
	reads(t, "-1 - -1", "(- -1 -1)")
	reads(t, "- 1 - 1", "(- (- 1) 1)")
	reads(t, "(a)-1", "(- a 1)")
	reads(t, "(-)-1", "(- - 1)")
	reads(t, "f(-1)", "(f -1)")
	reads(t, "f(-1, - 1)", "(f -1 (- 1))")
	reads(t, "[-1|-1]", `("." -1 -1)`)
	reads(t, "{-1}", "({} -1)")
	reads(t, "1 + -1", "(+ 1 -1)")
	reads(t, "-1 + 1", "(+ -1 1)")
	reads(t, "a = -1", "(= a -1)")
	reads(t, "a= -1", "(= a -1)")
	reads(t, "-1 ^ 2", "(^ -1 2)")
	reads(t, "- 1 ^ 2", "(- (^ 1 2))")
	reads(t, "-a ^ 2", "(- (^ a 2))")
	reads(t, "- (1) ^ 2", "(- (^ 1 2))")
	reads(t, "-(1) ^ 2", "(^ (- 1) 2)")
	// Of precedence 0: it may stand where an operator of precedence 1 lets nothing else stand.
	reads(t, "onefx -1", "(onefx -1)")
	reads(t, "-1 one -1", "(one -1 -1)")
	stray(t, "onefx - ¶1")
	reads(t, "9007199254740991", "9007199254740991")
	reads(t, "-9007199254740991", "-9007199254740991")
	reads(t, "- 9007199254740991", "(- 9007199254740991)")
	refuses(t, "9007199254740992", 0, api.ErrRange)
	refuses(t, "-9007199254740992", 1, api.ErrRange)
	stray(t, "'-'¶1")
	stray(t, "--¶1")
	stray(t, "+¶1")
	stray(t, "a ¶--1")
	stray(t, "1 ¶a")
	// Without the prefix operator an integer below 0 is still one, and the atom cannot stand ahead of another.
	table := oper.New()
	if e := table.Set(api.Op{Prec: 0, Type: api.OpFy, Name: "-"}); e != api.OK {
		t.Fatal(e)
	}
	answers(t, "-1.", 0, table, "-1", nil, 3, api.OK)
	answers(t, "- 1.", 0, table, "", nil, 2, api.ErrSyntax)
	answers(t, "-a.", 0, table, "", nil, 1, api.ErrSyntax)
	answers(t, "- - 1.", 0, table, "(- - 1)", nil, 6, api.OK)
	answers(t, "- -1.", 0, table, "(- - 1)", nil, 5, api.OK)
}

// P10.1: prefix operators, ahead of what may begin an operand, and of what may not.
func TestPrefix(t *testing.T) {
	reads(t, `\+a`, `(\+ a)`)
	reads(t, `\+ a`, `(\+ a)`)
	reads(t, `\+ 1`, `(\+ 1)`)
	reads(t, `\+1`, `(\+ 1)`)
	reads(t, `\+X`, `(\+ _0)`, "X")
	reads(t, `\+'='`, `(\+ =)`)
	reads(t, `\+ (a)`, `(\+ a)`)
	reads(t, `\+[]`, `(\+ [])`)
	reads(t, `\+[a]`, `(\+ ("." a []))`)
	reads(t, `\+{}`, `(\+ {})`)
	reads(t, `\+ {a}`, `(\+ ({} a))`)
	reads(t, `\+ f(a)`, `(\+ (f a))`)
	reads(t, `\+ !`, `(\+ !)`)
	reads(t, `\+ \+ a`, `(\+ (\+ a))`)
	reads(t, `\+ \+`, `(\+ \+)`)
	reads(t, `\+ - 1`, `(\+ (- 1))`)
	reads(t, `\+ -1`, `(\+ -1)`)
	reads(t, `\+ -`, `(\+ -)`)
	// An infix operator may not begin one, but if it opens arguments, or is a prefix operator, too.
	reads(t, `\+ = a`, `(= \+ a)`)
	reads(t, `\+ =(a)`, `(\+ (= a))`)
	reads(t, `\+ = (a)`, `(= \+ a)`)
	reads(t, `\+ mod a`, `(mod \+ a)`)
	reads(t, `\+ mod(a, b)`, `(\+ (mod a b))`)
	reads(t, `\+ -(a)`, `(\+ (- a))`)
	reads(t, `\+ :- `, `(\+ :-)`)
	reads(t, `- - `, `(- -)`)
	stray(t, "- both ¶a")
	stray(t, `\+ =¶`)
	stray(t, `\+ mod¶`)
	// Nothing may begin an operand that ends one.
	reads(t, `(\+)`, `\+`)
	reads(t, `[\+]`, `("." \+ [])`)
	reads(t, `{\+}`, `({} \+)`)
	reads(t, `f(\+)`, `(f \+)`)
	reads(t, `f(\+, a)`, `(f \+ a)`)
	reads(t, `[\+|-]`, `("." \+ -)`)
	reads(t, `- , -`, `(, - -)`)
	reads(t, `\+`, `\+`)
	reads(t, "- = -", "(= - -)")
	reads(t, "- = -1", "(= - -1)")
	reads(t, "- * -", "(* - -)")
	reads(t, "-(-)", "(- -)")
	reads(t, "[]-[]", "(- [] [])")
	// A name between quotes is no operator.
	stray(t, `'\\+' ¶a`)
	stray(t, "'-' ¶a")
	reads(t, "'-' - '-'", "(- - -)")
	reads(t, "'-' = a", "(= - a)")
	// Nor are [] and {}, nor a - that is ahead of a bracket without layout.
	reads(t, "-(a) = b", "(= (- a) b)")
	reads(t, "- (a) = b", "(= (- a) b)")
	reads(t, `\+ (a) = b`, `(\+ (= a b))`)
	reads(t, `\+(a) = b`, `(= (\+ a) b)`)
}

// P10.1: a prefix operator of a higher precedence than may stand there is an atom.
func TestHighPrefix(t *testing.T) {
	reads(t, ":- a", "(:- a)")
	reads(t, ":- a, b", "(:- (, a b))")
	stray(t, ":- a ¶:- b")
	stray(t, ":- :- ¶a")
	reads(t, ":- (:- a)", "(:- (:- a))")
	reads(t, "(:- a) , b", "(, (:- a) b)")
	reads(t, "{:- a}", "({} (:- a))")
	reads(t, "f((:- a))", "(f (:- a))")
	stray(t, "f(:- ¶a)")
	stray(t, "[:- ¶a]")
	stray(t, "[a|:- ¶b]")
	stray(t, "a , :- ¶b")
	reads(t, "a, wide b", "(, a (wide b))")
	reads(t, "wide a, b", "(wide (, a b))")
	reads(t, "f((wide b))", "(f (wide b))")
	reads(t, "f(wide)", "(f wide)")
	stray(t, "f(wide ¶b)")
	stray(t, "f(a, wide ¶b)")
	stray(t, "[wide ¶b]")
	stray(t, "[b|wide ¶b]")
	reads(t, "close a", "(close a)")
	reads(t, "close a, b", "(, (close a) b)")
	reads(t, "f(close b)", "(f (close b))")
	reads(t, "[close b|close a = c]", `("." (close b) (close (= a c)))`)
	stray(t, "- :- ¶a")
	stray(t, `- \+ ¶a`)
	reads(t, `- \+`, `(- \+)`)
	reads(t, `- \+ = a`, `(= (- \+) a)`)
	stray(t, `a * \+ ¶b`)
	stray(t, `a = \+ ¶b`)
	reads(t, `a = \+`, `(= a \+)`)
	reads(t, `a = \+(b)`, `(= a (\+ b))`)
	stray(t, "a xx fy ¶b")
	stray(t, "a xx fx ¶b")
	reads(t, "a xy fy b", "(xy a (fy b))")
	reads(t, "a xx lfx b", "(xx a (lfx b))")
}

// P10.1: what a prefix operator lets stand behind it, and which precedence it has then.
func TestPrefixPrecedence(t *testing.T) {
	reads(t, `\+ - a`, `(\+ (- a))`)
	reads(t, `\+ a = b`, `(\+ (= a b))`)
	reads(t, `\+ a, b`, `(, (\+ a) b)`)
	reads(t, `- a = b`, `(= (- a) b)`)
	reads(t, `- a ^ b`, `(- (^ a b))`)
	reads(t, `- a * b`, `(* (- a) b)`)
	reads(t, `a ^ - b`, `(^ a (- b))`)
	reads(t, `a * - b`, `(* a (- b))`)
	reads(t, "- a - b", "(- (- a) b)")
	reads(t, "fy fy a", "(fy (fy a))")
	reads(t, "fy fx a", "(fy (fx a))")
	stray(t, "fx fx ¶a")
	stray(t, "fx fy ¶a")
	reads(t, "fx (fx a)", "(fx (fx a))")
	reads(t, "fx lfx a", "(fx (lfx a))")
	reads(t, "fx lfy a", "(fx (lfy a))")
	stray(t, "lfx fx ¶a")
	stray(t, "lfx lfy ¶a")
	stray(t, "lfy fy ¶a")
	reads(t, "fy a yx b", "(fy (yx a b))")
	reads(t, "fy a xx b", "(fy (xx a b))")
	reads(t, "fy a xy b", "(fy (xy a b))")
	reads(t, "fx a yx b", "(yx (fx a) b)")
	stray(t, "fx a ¶xy b")
	stray(t, "fx a ¶xx b")
	reads(t, "fx a lxx b", "(fx (lxx a b))")
	reads(t, "lfy a xx b", "(xx (lfy a) b)")
	reads(t, "lfx a lyx b", "(lyx (lfx a) b)")
	stray(t, "lfx a ¶lxy b")
	reads(t, "onefx a", "(onefx a)")
	reads(t, "onefx (- a)", "(onefx (- a))")
	reads(t, "onefx - = a", "(= (onefx -) a)")
	stray(t, "onefx onefx ¶a")
	stray(t, "onefx - ¶a")
	stray(t, "onefx a ¶one b")
}

// P10.1: operators that are infix and prefix.
func TestBoth(t *testing.T) {
	reads(t, "both", "both")
	reads(t, "both a", "(both a)")
	reads(t, "a both b", "(both a b)")
	reads(t, "a both b both c", "(both (both a b) c)")
	reads(t, "both both", "(both both)")
	reads(t, "both both a", "(both (both a))")
	reads(t, "both both both a", "(both (both (both a)))")
	reads(t, "both both b both c", "(both (both (both b c)))")
	stray(t, "a both both ¶b")
	reads(t, "a both both", "(both a both)")
	reads(t, "a both (both b)", "(both a (both b))")
	reads(t, "both = a", "(= both a)")
	reads(t, "a = both b", "(= a (both b))")
	reads(t, "- both", "(- both)")
	reads(t, "both(a)", "(both a)")
	reads(t, "both (a)", "(both a)")
	reads(t, "both(a, b)", "(both a b)")
	reads(t, "a both (b)", "(both a b)")
	reads(t, "a both(b)", "(both a b)")
	stray(t, "a both(b¶")
	reads(t, "a both(b, c)", "(both a (, b c))")
	reads(t, "a -(b)", "(- a b)")
	reads(t, "a=(b)", "(= a b)")
}

// P10.1: infix operators of each type, nested on both sides, of equal, lower and higher precedence.
func TestInfix(t *testing.T) {
	reads(t, "a xx b", "(xx a b)")
	stray(t, "a xx b ¶xx c")
	reads(t, "(a xx b) xx c", "(xx (xx a b) c)")
	reads(t, "a xx (b xx c)", "(xx a (xx b c))")
	reads(t, "a xy b xy c", "(xy a (xy b c))")
	reads(t, "(a xy b) xy c", "(xy (xy a b) c)")
	reads(t, "a yx b yx c", "(yx (yx a b) c)")
	reads(t, "a yx (b yx c)", "(yx a (yx b c))")
	reads(t, "a yx b yx c yx d", "(yx (yx (yx a b) c) d)")
	reads(t, "a xy b xy c xy d", "(xy a (xy b (xy c d)))")
	// Of equal precedence, and unlike types.
	reads(t, "a xy b yx c", "(xy a (yx b c))")
	reads(t, "a xy b yx c yx d", "(xy a (yx (yx b c) d))")
	reads(t, "a xy b xx c", "(xy a (xx b c))")
	stray(t, "a xy b xx c ¶xx d")
	stray(t, "a yx b ¶xy c")
	stray(t, "a yx b ¶xx c")
	reads(t, "a xx b yx c", "(yx (xx a b) c)")
	stray(t, "a xx b ¶xy c")
	// A lower one on the right, and on the left.
	for _, high := range []string{"xx", "xy", "yx"} {
		for _, low := range []string{"lxx", "lxy", "lyx"} {
			reads(t, "a "+high+" b "+low+" c", "("+high+" a ("+low+" b c))")
			reads(t, "a "+low+" b "+high+" c", "("+high+" ("+low+" a b) c)")
			reads(t, "a "+low+" b "+high+" c "+low+" d", "("+high+" ("+low+" a b) ("+low+" c d))")
		}
	}
	stray(t, "a lxx b ¶lxx c")
	reads(t, "a lxy b lxy c xx d", "(xx (lxy a (lxy b c)) d)")
	// Precedence 1 lets nothing stand that has one.
	reads(t, "a one b", "(one a b)")
	stray(t, "a one b ¶one c")
	stray(t, "a one - ¶b")
	reads(t, "a ^ b one c", "(^ a (one b c))")
	reads(t, "a one b ^ c", "(^ (one a b) c)")
	reads(t, "f(a) one [b]", `(one (f a) ("." b []))`)
	reads(t, "(a = b) one {b}", `(one (= a b) ({} b))`)
}

// P10.1: the operators of the beginning.
func TestUsual(t *testing.T) {
	reads(t, "a :- b, c", "(:- a (, b c))")
	reads(t, "a :- b, c ; d", "(:- a (; (, b c) d))")
	reads(t, "a ; b -> c ; d", "(; a (; (-> b c) d))")
	reads(t, "a -> b -> c", "(-> a (-> b c))")
	reads(t, "a -> b ; c", "(; (-> a b) c)")
	reads(t, "a ; b , c", "(; a (, b c))")
	stray(t, "a :- b ¶:- c")
	stray(t, "a = b ¶= c")
	stray(t, "a < b ¶== c")
	reads(t, "X is 1 + 2 * 3 mod 4", "(is _0 (+ 1 (mod (* 2 3) 4)))", "X")
	reads(t, "1 rem 2 // 3 / 4", "(/ (// (rem 1 2) 3) 4)")
	reads(t, "1 - 2 - 3 + 4", "(+ (- (- 1 2) 3) 4)")
	reads(t, "1 - (2 - 3)", "(- 1 (- 2 3))")
	reads(t, "2 ^ 3 ^ 4", "(^ 2 (^ 3 4))")
	reads(t, "2 * 3 + 4 * 5 = X", "(= (+ (* 2 3) (* 4 5)) _0)", "X")
	for _, name := range []string{"=", `\=`, "==", `\==`, "@<", "@>", "@=<", "@>=", "is", "=:=", `=\=`, "<", ">", "=<", ">=", "=.."} {
		reads(t, "X + 1 "+name+" Y", "("+name+" (+ _0 1) _1)", "X", "Y")
		stray(t, "a "+name+" b ¶= c")
	}
	reads(t, "app([H|T], L, [H|R]) :- app(T, L, R)", `(:- (app ("." _0 _1) _2 ("." _0 _3)) (app _1 _2 _3))`, "H", "T", "L", "R")
	reads(t, `a:-b,\+c;d->e`, `(:- a (; (, b (\+ c)) (-> d e)))`)
	stray(t, "ann ¶likes bob")
	stray(t, "a =¶")
	stray(t, "a = ¶)")
	reads(t, "a = =", "(= a =)")
	reads(t, "= = =", "(= = =)")
	stray(t, "= = = ¶=")
}

// P10.1: the comma, as an infix operator and between arguments.
func TestComma(t *testing.T) {
	reads(t, "a,b", "(, a b)")
	reads(t, "a , b,c", "(, a (, b c))")
	reads(t, "(a,b),c", "(, (, a b) c)")
	reads(t, "a, b = c", "(, a (= b c))")
	reads(t, "f(a,b),c", "(, (f a b) c)")
	reads(t, "f((a,b),c)", "(f (, a b) c)")
	reads(t, "[(a,b),c]", `("." (, a b) ("." c []))`)
	reads(t, "[a|(b,c)]", `("." a (, b c))`)
	reads(t, "','(a,b)", "(, a b)")
	reads(t, "','", ",")
	reads(t, "',' , ','", "(, , ,)")
	stray(t, "¶, a")
	stray(t, "a ,¶")
	stray(t, "a,¶,b")
	stray(t, "a,¶)")
	stray(t, "a ¶',' b")
	stray(t, "a ¶','(b)")
	stray(t, "¶,(a, b)")
	stray(t, "a,¶,(b)")
	stray(t, "a ¶| b")
	stray(t, "(a ¶| b)")
}

// P10.1: lists.
func TestLists(t *testing.T) {
	reads(t, "[]", "[]")
	reads(t, "[ ]", "[]")
	reads(t, "[/**/ %\n]", "[]")
	reads(t, "[a]", `("." a [])`)
	reads(t, "[ a ]", `("." a [])`)
	reads(t, "[a,b]", `("." a ("." b []))`)
	reads(t, "[a, 1]", `("." a ("." 1 []))`)
	reads(t, "[a|b]", `("." a b)`)
	reads(t, "[a , b | X]", `("." a ("." b _0))`, "X")
	reads(t, "[a|[]]", `("." a [])`)
	reads(t, "[a|[b]]", `("." a ("." b []))`)
	reads(t, "[a|[b|[c|d]]]", `("." a ("." b ("." c d)))`)
	reads(t, "[[]]", `("." [] [])`)
	reads(t, "[[],[]]", `("." [] ("." [] []))`)
	reads(t, "[[a],[b|c]|[[]]]", `("." ("." a []) ("." ("." b c) ("." [] [])))`)
	reads(t, "[a=b,- c|d-e]", `("." (= a b) ("." (- c) (- d e)))`)
	reads(t, "[(a:-b)|(c:-d)]", `("." (:- a b) (:- c d))`)
	reads(t, "[-]", `("." - [])`)
	reads(t, "[-|=]", `("." - =)`)
	reads(t, "'.'(a, [])", `("." a [])`)
	reads(t, "[] = [ ]", "(= [] [])")
	reads(t, "[](a) = [ ](b)", "(= ([] a) ([] b))")
	stray(t, "[¶")
	stray(t, "[a¶")
	stray(t, "[a,¶")
	stray(t, "[a|¶")
	stray(t, "[a|b¶")
	stray(t, "[¶,a]")
	stray(t, "[a,¶]")
	stray(t, "[a,¶|b]")
	stray(t, "[¶|a]")
	stray(t, "[a|¶]")
	stray(t, "[a|¶|b]")
	stray(t, "[a|b¶|c]")
	stray(t, "[a|b¶,c]")
	stray(t, "[a ¶b]")
	stray(t, "[a|b ¶c]")
	stray(t, "[a¶)")
	stray(t, "[a|b¶}")
	stray(t, "[a ¶:- b]")
	stray(t, "[a|b ¶; c]")
	stray(t, "[¶)]")
	stray(t, "[a]¶(b)")
	stray(t, "[a] ¶[b]")
	stray(t, "[a]¶]")
}

// P10.1: curly brackets, with nothing between them and with a term.
func TestCurly(t *testing.T) {
	reads(t, "{}", "{}")
	reads(t, "{ }", "{}")
	reads(t, "{%}\n}", "{}")
	reads(t, "{a}", "({} a)")
	reads(t, "{ X }", "({} _0)", "X")
	reads(t, "{a, b}", "({} (, a b))")
	reads(t, "{a :- b}", "({} (:- a b))")
	reads(t, "{:- b}", "({} (:- b))")
	reads(t, "{{}}", "({} {})")
	reads(t, "{{a}}", "({} ({} a))")
	reads(t, "{[]}", "({} [])")
	reads(t, "{(a)}", "({} a)")
	reads(t, "{-}", "({} -)")
	reads(t, "{-1}", "({} -1)")
	reads(t, "{a} = {b}", "(= ({} a) ({} b))")
	reads(t, "{}(a) = '{}'(a)", "(= ({} a) ({} a))")
	reads(t, "{} - {}", "(- {} {})")
	stray(t, "{¶")
	stray(t, "{a¶")
	stray(t, "{a¶]")
	stray(t, "{a¶)")
	stray(t, "{a ¶b}")
	stray(t, "{a,¶}")
	stray(t, "{¶,}")
	stray(t, "{¶|}")
	stray(t, "{a¶|b}")
	stray(t, "{a}¶(b)")
	stray(t, "{a} ¶{b}")
	stray(t, "{a :- b ¶:- c}")
}

// P10.1: variables are numbered as their names come first; each _ alone is one of its own.
func TestVariables(t *testing.T) {
	reads(t, "f(X, Y, X)", "(f _0 _1 _0)", "X", "Y")
	reads(t, "Y = X", "(= _0 _1)", "Y", "X")
	reads(t, "B + A * C - A", "(- (+ _0 (* _1 _2)) _1)", "B", "A", "C")
	reads(t, "_ = _", "(= _0 _1)", "_", "_")
	reads(t, "f(X, _, Y, _, X, _)", "(f _0 _1 _2 _3 _0 _4)", "X", "_", "Y", "_", "_")
	reads(t, "f(_, X, _, X)", "(f _0 _1 _2 _1)", "_", "X", "_")
	reads(t, "f(_x, _x, __, __, _X, _1, _)", "(f _0 _0 _1 _1 _2 _3 _4)", "_x", "__", "_X", "_1", "_")
	reads(t, "f(X, x, XX, 'X', X)", `(f _0 x _1 "X" _0)`, "X", "XX")
	reads(t, "[X, Y|X]", `("." _0 ("." _1 _0))`, "X", "Y")
	reads(t, "{X} = '_'", `(= ({} _0) "_")`, "X")
	long := "V" + strings.Repeat("a", 62)
	reads(t, "f("+long+"b, "+long+"c, "+long+")", "(f _0 _1 _2)", long+"b", long+"c", long)
	// Each clause has its own.
	l, n, e := parse.All([]byte("f(X, _). f(Y, X). f(_, Y)."), oper.New())
	if len(l) != 3 || n != 26 || e != api.OK {
		t.Fatal(l, n, e)
	}
	for i, names := range [][]string{{"X", "_"}, {"Y", "X"}, {"_", "Y"}} {
		if show(l[i].Term) != "(f _0 _1)" || !slices.Equal(l[i].Names, names) {
			t.Error(l[i])
		}
	}
}

// nested answers a text so often nested.
func nested(open, inner, shut string, n int) string {
	return strings.Repeat(open, n) + inner + strings.Repeat(shut, n)
}

// P10.1: terms that are as deep as they may be, and one more: the place is the first token's.
func TestDeep(t *testing.T) {
	for _, c := range []struct{ open, inner, shut, shown, shownInner, shownShut string }{
		{"f(", "a", ")", "(f ", "a", ")"},
		{"{", "a", "}", "({} ", "a", ")"},
		{"- ", "1", "", "(- ", "1", ")"},
		{"[", "[]", "]", `("." `, "[]", " [])"},
		{"a, ", "b", "", "(, a ", "b", ")"},
		{"a ^ ", "b", "", "(^ a ", "b", ")"},
		{"", "b", " + a", "(+ ", "b", " a)"},
		{"[a|", "b", "]", `("." a `, "b", ")"},
	} {
		reads(t, nested(c.open, c.inner, c.shut, 199), nested(c.shown, c.shownInner, c.shownShut, 199))
		for _, n := range []int{200, 201, 1000} {
			refuses(t, nested(c.open, c.inner, c.shut, n), 0, api.ErrDepth)
			text := " \n/* */" + nested(c.open, c.inner, c.shut, n)
			refuses(t, text, 7, api.ErrDepth)
			// What the grammar refuses is told first.
			refuses(t, text+" )", len(text)+1, api.ErrSyntax)
		}
	}
	table := oper.New()
	answers(t, nested("(", "a", ")", 32000)+".", 0, table, "a", nil, 64002, api.OK)
	for _, c := range []struct {
		open, inner, shut string
		n                 int
	}{
		{"[", "a", "]", 32000}, {"{", "a", "}", 32000}, {"f(", "a", ")", 21000}, {"- ", "a", "", 32000}, {"a,", "a", "", 32000}, {"", "a", "-a", 32000}, {"[a|", "a", "]", 16000}, {"-[", "a", "]", 21000},
	} {
		text := nested(c.open, c.inner, c.shut, c.n)
		answers(t, text+" .", 0, table, "", nil, 0, api.ErrDepth)
		answers(t, text+").", 0, table, "", nil, len(text), api.ErrSyntax)
	}
	answers(t, nested("(", "", "", 65000)+" .", 0, table, "", nil, 65001, api.ErrSyntax)
}

// bush answers the text of a term of n parts that is as flat as can be, and how it is shown.
func bush(n int, leaf, shownLeaf string) (string, string) {
	if n == 1 {
		return leaf, shownLeaf
	}
	var text, shown strings.Builder
	text.WriteString("f(")
	shown.WriteString("(f")
	args := min(16, n-1)
	for i := range args {
		part, shownPart := bush((n-1+i)/args, leaf, shownLeaf)
		if i > 0 {
			text.WriteString(",")
		}
		text.WriteString(part)
		shown.WriteString(" " + shownPart)
	}
	return text.String() + ")", shown.String() + ")"
}

// P10.1: terms that are as large as they may be, and one more: the place is the first token's.
func TestLarge(t *testing.T) {
	for _, n := range []int{4095, 4096} {
		for _, leaf := range []string{"a", "1", "[]", "{}"} {
			text, shown := bush(n, leaf, leaf)
			reads(t, text, shown)
		}
	}
	for _, n := range []int{4097, 4098, 8000} {
		text, _ := bush(n, "a", "a")
		refuses(t, text, 0, api.ErrMany)
		refuses(t, "\n  "+text, 3, api.ErrMany)
		stray(t, text+" ¶a")
		// That a term is too deep is told ahead of that it is too large.
		refuses(t, "f("+text+", "+nested("g(", "a", ")", 199)+")", 0, api.ErrDepth)
		refuses(t, "f("+text+", "+nested("g(", "a", ")", 198)+")", 0, api.ErrMany)
	}
	// As many variables as fit are numbered.
	text, _ := bush(4096, "_", "")
	r, e := parse.One(text, oper.New())
	if e != api.OK || len(r.Names) != strings.Count(text, "_") || !slices.Equal(term.Vars(r.Term), upTo(len(r.Names))) {
		t.Error(e, len(r.Names))
	}
	text, _ = bush(4096, "X", "")
	r, e = parse.One(text, oper.New())
	if e != api.OK || !slices.Equal(r.Names, []string{"X"}) || !slices.Equal(term.Vars(r.Term), []int{0}) {
		t.Error(e, r.Names)
	}
}

// upTo answers the numbers from 0 to n - 1.
func upTo(n int) []int {
	var l []int
	for i := range n {
		l = append(l, i)
	}
	return l
}

// all checks what All answers of a text of these clauses, each with the place behind it, up to an error.
func all(t *testing.T, text string, at int, wrong api.Errno, want ...string) {
	t.Helper()
	l, n, e := parse.All([]byte(text), oper.New())
	if n != at || e != wrong || len(l) != len(want) {
		t.Errorf("All(%.80q) = %d, %d, %d, not %d, %d, %d", text, len(l), n, e, len(want), at, wrong)
		return
	}
	for i, r := range l {
		if s := show(r.Term) + " " + strconv.Itoa(r.Next); s != want[i] {
			t.Errorf("All(%.80q)[%d] = %s, not %s", text, i, s, want[i])
		}
	}
}

// P10.2: all clauses of a text, with and without an error in it.
func TestAll(t *testing.T) {
	all(t, "", 0, api.OK)
	all(t, " \n% a.", 6, api.OK)
	all(t, "a.", 2, api.OK, "a 2")
	all(t, " a . \n", 6, api.OK, "a 4")
	all(t, "a. b(X). [] :- 1. % c.", 22, api.OK, "a 2", "(b _0) 8", "(:- [] 1) 17")
	all(t, "a.%\nb./**/", 10, api.ErrEnd, "a 2")
	all(t, "a.%\nb. /**/", 11, api.OK, "a 2", "b 6")
	all(t, "a. b", 4, api.ErrEnd, "a 2")
	all(t, "a. b. ", 6, api.OK, "a 2", "b 5")
	all(t, "a. ) . b.", 3, api.ErrSyntax, "a 2")
	all(t, "a. b c. d. 'e", 5, api.ErrSyntax, "a 2")
	all(t, "a. b. 'c. d.", 6, api.ErrToken, "a 2", "b 5")
	all(t, "a. . b.", 3, api.ErrSyntax, "a 2")
	all(t, "a. b /* c. d.", 5, api.ErrToken, "a 2")
	all(t, "a. b. /* c.", 6, api.ErrToken, "a 2", "b 5")
	all(t, "a. 9007199254740992. b.", 3, api.ErrRange, "a 2")
	all(t, "a. "+nested("{", "a", "}", 200)+". b.", 3, api.ErrDepth, "a 2")
	all(t, "a.b.", 1, api.ErrSyntax)
	all(t, ".", 0, api.ErrSyntax)
	all(t, "'", 0, api.ErrToken)
	const n = 65536 / 2 / 2
	l, at, e := parse.All([]byte(strings.Repeat("a. \n", n)), oper.New())
	if len(l) != n || at != 4*n || e != api.OK || show(l[n-1].Term) != "a" || l[n-1].Next != 4*n-2 {
		t.Error(len(l), at, e)
	}
}

// P10.2: a text that is one clause, or none, or more.
func TestOne(t *testing.T) {
	table := oper.New()
	for text, want := range map[string]string{"a": "a", " a\n": "a", "+": "+", "X = Y": "(= _0 _1)", "a /* . */": "a", "a % b\n": "a", "a. %": "a", "a. /* */ % b. ": "a"} {
		r, e := parse.One(text, table)
		next := len(text) + 2
		if at := strings.Index(text, "a."); at >= 0 {
			next = at + 2
		}
		if e != api.OK || show(r.Term) != want || r.Next != next {
			t.Errorf("One(%q) = %v, %d", text, r, e)
		}
	}
	for text, wrong := range map[string]api.Errno{
		"": api.ErrSyntax, " ": api.ErrSyntax, "/* */": api.ErrSyntax, "\n": api.ErrSyntax, ".": api.ErrSyntax,
		"%": api.ErrNone, " % a": api.ErrNone, "a % b": api.ErrEnd, "f(% a)": api.ErrEnd,
		"a. b": api.ErrSyntax, "a. b.": api.ErrSyntax, "a. b. c": api.ErrSyntax, "a.": api.ErrSyntax, "a. ": api.ErrSyntax, "a. b. %": api.ErrSyntax,
		"a b": api.ErrSyntax, "f(a": api.ErrSyntax, "a =": api.ErrSyntax, "a. b c": api.ErrSyntax,
		"'a": api.ErrToken, "/* a": api.ErrToken, "a = 'b": api.ErrToken, "\x00": api.ErrToken,
		"9007199254740992": api.ErrRange, strings.Repeat("a", 65): api.ErrLong,
		// The first error is told, ahead of that there is more than one clause.
		"a. 'b": api.ErrToken, "a. b. 'c": api.ErrToken, "a. b %": api.ErrEnd, "a b. 'c": api.ErrSyntax,
	} {
		if r, e := parse.One(text, table); e != wrong || !nothing(r) {
			t.Errorf("One(%q) = %v, %d, not %d", text, r, e, wrong)
		}
	}
}

// P10.1: the operators are the table's as it is then.
func TestOperatorsOfTheTable(t *testing.T) {
	table := oper.New()
	text := "ann likes bob."
	answers(t, text, 0, table, "", nil, 4, api.ErrSyntax)
	fork := table.Fork()
	if e := table.Set(api.Op{Prec: 700, Type: api.OpXfx, Name: "likes"}); e != api.OK {
		t.Fatal(e)
	}
	answers(t, text, 0, table, "(likes ann bob)", nil, 14, api.OK)
	answers(t, text, 0, fork, "", nil, 4, api.ErrSyntax)
	if e := table.Set(api.Op{Prec: 0, Type: api.OpXfx, Name: "likes"}); e != api.OK {
		t.Fatal(e)
	}
	answers(t, text, 0, table, "", nil, 4, api.ErrSyntax)
	// An operator of another type lets other things stand beside it.
	minus := "a - b - c ."
	answers(t, minus, 0, table, "(- (- a b) c)", nil, 11, api.OK)
	for _, c := range []struct {
		kind int
		want string
	}{{api.OpXfy, "(- a (- b c))"}, {api.OpYfx, "(- (- a b) c)"}} {
		if e := table.Set(api.Op{Prec: 500, Type: c.kind, Name: "-"}); e != api.OK {
			t.Fatal(e)
		}
		answers(t, minus, 0, table, c.want, nil, 11, api.OK)
	}
	if e := table.Set(api.Op{Prec: 500, Type: api.OpXfx, Name: "-"}); e != api.OK {
		t.Fatal(e)
	}
	answers(t, minus, 0, table, "", nil, 6, api.ErrSyntax)
}

// lists hands on each list that the answer holds.
func lists(x api.Term, visit func(l []api.Term)) {
	visit(x.L)
	for _, arg := range x.L {
		lists(arg, visit)
	}
}

// R3: what is handed in is not changed, nor what lies behind it; what was answered does not hang on it any more.
func TestArgumentsStay(t *testing.T) {
	const text = "f('a b', X1, -7) :- [g|Tail], {- _}. b(Y)."
	room := []byte(text + "<and more>")
	b := room[:len(text)]
	table := ops(t)
	before := table.All()
	r, n, e := parse.Clause(b, 0, table)
	l, m, e2 := parse.All(b, table)
	if n != 36 || e != api.OK || len(l) != 2 || m != len(text) || e2 != api.OK {
		t.Fatal(n, e, l, m, e2)
	}
	if _, _, e := parse.Clause(b, 39, table); e != api.ErrSyntax {
		t.Error(e)
	}
	if string(room) != text+"<and more>" || !slices.Equal(table.All(), before) {
		t.Error(string(room), table.All())
	}
	for i := range room {
		room[i] = '!'
	}
	const shown = `(:- (f "a b" _0 -7) (, ("." g _1) ({} (- _2))))`
	for _, r := range []api.Read{r, l[0]} {
		if show(r.Term) != shown || !slices.Equal(r.Names, []string{"X1", "Tail", "_"}) {
			t.Error(r)
		}
	}
	if show(l[1].Term) != "(b _0)" || !slices.Equal(l[1].Names, []string{"Y"}) {
		t.Error(l[1])
	}
}

// R3: what was answered is whoever's who asked, the spare room of each list, too.
func TestAnswersAreNew(t *testing.T) {
	table := ops(t)
	text := []byte("f(X, Y, Z, [X, Y, Z|X], (X, Y, Z), - X, {X}, g(h(i, j, k), l, m)). f(X, Y, Z) :- a, b.")
	first, _, _ := parse.All(text, table)
	second, _, _ := parse.All(text, table)
	if len(first) != 2 || len(second) != 2 {
		t.Fatal(first, second)
	}
	var want []string
	for _, r := range second {
		want = append(want, show(r.Term)+strings.Join(r.Names, " "))
	}
	// Nothing of an answer lies in another list's spare room.
	for _, r := range first {
		lists(r.Term, func(l []api.Term) {
			for i := len(l); i < cap(l); i++ {
				l[:cap(l)][i] = term.Atom("spoilt")
			}
		})
		for i := len(r.Names); i < cap(r.Names); i++ {
			r.Names[:cap(r.Names)][i] = "Spoilt"
		}
	}
	for i, r := range first {
		if s := show(r.Term) + strings.Join(r.Names, " "); s != want[i] {
			t.Error(s, want[i])
		}
	}
	// Nor does one share anything with another.
	for _, r := range first {
		lists(r.Term, func(l []api.Term) {
			for i := range l {
				l[i].Kind, l[i].S = api.KindAtom, "spoilt"
			}
		})
		for i := range r.Names {
			r.Names[i] = "Spoilt"
		}
	}
	third, _, _ := parse.All(text, table)
	for _, l := range [][]api.Read{second, third} {
		for i, r := range l {
			if s := show(r.Term) + strings.Join(r.Names, " "); s != want[i] {
				t.Error(s, want[i])
			}
		}
	}
}
