package write_test

import (
	"slices"
	"strconv"
	"strings"
	"testing"

	"elenchus/api"
	"elenchus/oper"
	"elenchus/parse"
	"elenchus/term"
	"elenchus/write"
)

// The terms of these tests are laid by hand, so that lists stand in them as the tests want.

func v(n int) api.Term    { return api.Term{Kind: api.KindVar, N: n} }
func i(n int) api.Term    { return api.Term{Kind: api.KindInt, N: n} }
func a(s string) api.Term { return api.Term{Kind: api.KindAtom, S: s} }
func c(s string, l ...api.Term) api.Term {
	return api.Term{Kind: api.KindComp, S: s, L: l}
}

// list answers the list of those items that ends with that tail.
func list(tail api.Term, items ...api.Term) api.Term {
	for _, item := range slices.Backward(items) {
		tail = c(".", item, tail)
	}
	return tail
}

// nested answers a term that many levels above the inner one.
func nested(levels int, inner api.Term) api.Term {
	for range levels {
		inner = c("s", inner)
	}
	return inner
}

// wide answers a term of 16^levels leaves.
func wide(levels int, leaf api.Term) api.Term {
	if levels == 0 {
		return leaf
	}
	l := make([]api.Term, 16)
	for j := range l {
		l[j] = wide(levels-1, leaf)
	}
	return c("w", l...)
}

// sized answers a term whose canonical text, and that by operators, has so many bytes: no less than it has with names of one byte.
func sized(size int) api.Term {
	leaf := a("a")
	x := c("f", wide(2, leaf), wide(2, leaf), wide(2, leaf), wide(2, leaf))
	left := size - len(meant(x, nil).text)
	var fill func(l []api.Term)
	fill = func(l []api.Term) {
		for j := range l {
			fill(l[j].L)
			if l[j].Kind == api.KindAtom {
				more := min(left, 63)
				l[j].S += strings.Repeat("a", more)
				left -= more
			}
		}
	}
	fill(x.L)
	return x
}

// bad are terms that may not be, with what is told of them.
var bad = []struct {
	what string
	term api.Term
	want api.Errno
}{
	{"nothing", api.Term{}, api.ErrTerm},
	{"kind 5", api.Term{Kind: 5}, api.ErrTerm},
	{"variable -1", v(-1), api.ErrTerm},
	{"variable too great", v(api.MaxVar), api.ErrTerm},
	{"integer too great", i(api.MaxInt + 1), api.ErrTerm},
	{"integer too small", i(-api.MaxInt - 1), api.ErrTerm},
	{"name too long", a(strings.Repeat("a", 65)), api.ErrTerm},
	{"compound without arguments", c("f"), api.ErrTerm},
	{"compound of 17 arguments", c("f", slices.Repeat([]api.Term{i(1)}, 17)...), api.ErrTerm},
	{"nothing within a list", list(a("[]"), i(1), api.Term{}), api.ErrTerm},
	{"nothing beside an operator", c("-", api.Term{}, i(1)), api.ErrTerm},
	{"a minus of nothing", c("-", api.Term{}), api.ErrTerm},
	{"201 levels", nested(200, a("a")), api.ErrDepth},
	{"201 levels of a list", list(a("[]"), slices.Repeat([]api.Term{i(1)}, 200)...), api.ErrDepth},
	{"4369 parts", wide(3, a("a")), api.ErrMany},
	{"many parts and a bad one", c("f", wide(3, a("a")), api.Term{}), api.ErrTerm},
	{"too long and a bad one", c("f", sized(api.MaxSource+1), api.Term{}), api.ErrTerm},
}

// table answers a table with some operators more, of each type one that a higher, an equal and a lower one of that type stand beside.
func table(t *testing.T) *oper.Table {
	t.Helper()
	ops := oper.New()
	for _, o := range []api.Op{
		{Prec: 300, Type: api.OpXfx, Name: "xx"}, {Prec: 300, Type: api.OpXfy, Name: "xy"}, {Prec: 300, Type: api.OpYfx, Name: "yx"},
		{Prec: 300, Type: api.OpFy, Name: "fy"}, {Prec: 300, Type: api.OpFx, Name: "fx"},
		{Prec: 299, Type: api.OpXfx, Name: "lxx"}, {Prec: 299, Type: api.OpXfy, Name: "lxy"}, {Prec: 299, Type: api.OpYfx, Name: "lyx"},
		{Prec: 299, Type: api.OpFy, Name: "lfy"}, {Prec: 299, Type: api.OpFx, Name: "lfx"},
		{Prec: 300, Type: api.OpYfx, Name: "both"}, {Prec: 300, Type: api.OpFy, Name: "both"},
		{Prec: 1, Type: api.OpXfx, Name: "one"}, {Prec: 1, Type: api.OpFx, Name: "onefx"}, {Prec: 1, Type: api.OpFy, Name: "onefy"},
		{Prec: 1, Type: api.OpYfx, Name: "oneyx"}, {Prec: 1, Type: api.OpXfy, Name: "onexy"},
		{Prec: 999, Type: api.OpFy, Name: "close"}, {Prec: 1000, Type: api.OpFy, Name: "wide"}, {Prec: 1001, Type: api.OpXfx, Name: "near"},
		{Prec: 1200, Type: api.OpXfy, Name: "top"}, {Prec: 400, Type: api.OpYfx, Name: "+."},
	} {
		if e := ops.Set(o); e != api.OK {
			t.Fatal(o, e)
		}
	}
	return ops
}

// P11.1: canonical texts of each kind of term.
func TestCanon(t *testing.T) {
	long := strings.Repeat("n", 64)
	for _, k := range []struct {
		term api.Term
		want string
	}{
		{v(0), "_0"}, {v(7), "_7"}, {v(10), "_10"}, {v(api.MaxVar - 1), "_1073741823"},
		{i(0), "0"}, {i(7), "7"}, {i(-1), "-1"}, {i(-10), "-10"}, {i(api.MaxInt), "9007199254740991"}, {i(-api.MaxInt), "-9007199254740991"},
		{a("a"), "a"}, {a("aB_9"), "aB_9"}, {a(long), long}, {a("[]"), "[]"}, {a("{}"), "{}"}, {a("!"), "!"}, {a(";"), ";"}, {a("-"), "-"}, {a(":-"), ":-"}, {a(".."), ".."}, {a("+/*"), "+/*"},
		{a(""), "''"}, {a("A"), "'A'"}, {a("_"), "'_'"}, {a("1"), "'1'"}, {a("a b"), "'a b'"}, {a(","), "','"}, {a("|"), "'|'"}, {a("."), "'.'"}, {a("/*"), "'/*'"}, {a("!!"), "'!!'"}, {a("()"), "'()'"}, {a("a-"), "'a-'"},
		{a("it's"), `'it\'s'`}, {a(`\`), `\`}, {a(`a\`), `'a\\'`}, {a("\n\t"), `'\n\t'`}, {a("\x00\x1f\x7f"), `'\x0\\x1f\\x7f\'`}, {a("é"), "'é'"}, {a("\xff"), "'\xff'"},
		{list(a("[]"), i(1)), "[1]"}, {list(a("[]"), i(1), v(2), a("x")), "[1,_2,x]"}, {list(v(0), i(1)), "[1|_0]"}, {list(a("b"), i(1), i(-2)), "[1,-2|b]"}, {list(a("{}"), i(1)), "[1|{}]"}, {list(a("."), a(".")), "['.'|'.']"}, {list(i(0), i(1)), "[1|0]"},
		{list(a("[]"), a("[]")), "[[]]"}, {list(a("[]"), list(a("[]"), a("[]")), a("[]")), "[[[]],[]]"}, {list(list(a("[]"), i(2)), i(1)), "[1,2]"}, {list(c("[]", i(1)), i(1)), "[1|[](1)]"}, {list(c(".", i(1)), i(1)), "[1|'.'(1)]"},
		{c("f", v(0)), "f(_0)"}, {c("f", i(-1), a("a b"), v(0)), "f(-1,'a b',_0)"}, {c("f", c("f", c("f", i(1))), i(2)), "f(f(f(1)),2)"}, {c("", i(1)), "''(1)"}, {c("X", i(1)), "'X'(1)"}, {c(long, a(long)), long + "(" + long + ")"},
		{c("f", slices.Repeat([]api.Term{i(1)}, 16)...), "f(1,1,1,1,1,1,1,1,1,1,1,1,1,1,1,1)"},
		{c(".", i(1)), "'.'(1)"}, {c(".", i(1), i(2), i(3)), "'.'(1,2,3)"}, {c(".", i(1), i(2), a("[]")), "'.'(1,2,[])"},
		{c("[]", i(1)), "[](1)"}, {c("[]", i(1), a("[]")), "[](1,[])"}, {c("{}", i(1)), "{}(1)"}, {c("{}", a("-")), "{}(-)"}, {c("{}", i(1), i(2)), "{}(1,2)"},
		// Operators are names like others.
		{c("-", i(1)), "-(1)"}, {c("-", i(-1)), "-(-1)"}, {c("-", a("a")), "-(a)"}, {c("-", i(1), i(2)), "-(1,2)"}, {c(",", a("a"), a(",")), "','(a,',')"}, {c(":-", a("a"), c(",", a("b"), a("c"))), ":-(a,','(b,c))"}, {c(`\+`, a("-")), `\+(-)`}, {list(a(":-"), a("-")), "[-|:-]"}, {c("is", v(0), c("mod", i(1), i(2))), "is(_0,mod(1,2))"},
	} {
		if s, e := write.Canon(k.term); s != k.want || e != api.OK {
			t.Errorf("Canon: %q, %d, not %q", s, e, k.want)
		}
	}
}

// P11.1, P11.3: canonical texts are read as variants by operators of any kind, even of names that stand in them as others.
func TestCanonIsRead(t *testing.T) {
	s := source(3)
	for range 300 {
		x := anyTerm(&s, 6)
		for range 5 {
			agrees(t, x, anyTable(&s))
		}
	}
}

// writes checks the text of the term that a text is read as, by the same operators.
func writes(t *testing.T, ops *oper.Table, read, want string) {
	t.Helper()
	r, e := parse.One(read, ops)
	if e != api.OK {
		t.Errorf("%q: %d", read, e)
		return
	}
	if s, e := write.Text(r.Term, ops); s != want || e != api.OK {
		t.Errorf("Text of %q: %q, %d, not %q", read, s, e, want)
	}
	if s, e := write.Clause(r.Term, ops); s != want+" .\n" || e != api.OK {
		t.Errorf("Clause of %q: %q, %d", read, s, e)
	}
}

// P11.1: texts by the operators that there are at the beginning.
func TestText(t *testing.T) {
	ops := oper.New()
	for _, k := range [][2]string{
		{"a:-b,c;d->e", "a :- b, c ; d -> e"}, {":- a", ":- a"}, {"(a:-b):-c", "(a :- b) :- c"}, {":-(:-(a))", ":- (:- a)"}, {":- (a:-b)", ":- (a :- b)"},
		{"1-2-3", "1 - 2 - 3"}, {"1-(2-3)", "1 - (2 - 3)"}, {"(1-2)-3", "1 - 2 - 3"}, {"1+2*3", "1 + 2 * 3"}, {"(1+2)*3", "(1 + 2) * 3"}, {"1*(2*3)", "1 * (2 * 3)"}, {"2^3^4", "2 ^ 3 ^ 4"}, {"(2^3)^4", "(2 ^ 3) ^ 4"},
		{"(a,b),c", "(a, b), c"}, {"a,b,c", "a, b, c"}, {"(a;b),c", "(a ; b), c"}, {"a,(b;c)", "a, (b ; c)"}, {"','(a,',')", "a, (',')"}, {"','", "','"}, {"','(a)", "','(a)"}, {"','(a,b,c)", "','(a,b,c)"},
		{"a=b", "a = b"}, {"(a=b)=c", "(a = b) = c"}, {"a=(b=c)", "a = (b = c)"}, {"X is Y mod 2", "_0 is _1 mod 2"}, {"X=..[a|Y]", "_0 =.. [a|_1]"},
		{`\+a`, `\+ a`}, {`\+ \+a`, `\+ \+ a`}, {`\+(a,b)`, `\+(a,b)`}, {`\+ (a,b)`, `\+ (a, b)`}, {`\+a=b`, `\+ a = b`}, {`(\+a)=b`, `(\+ a) = b`}, {`a=(\+b)`, `a = (\+ b)`},
		// A minus, and integers below 0.
		{"-(1)", "-(1)"}, {"- 1", "-(1)"}, {"-(0)", "-(0)"}, {"-(-1)", "-(-1)"}, {"- -1", "-(-1)"}, {"- (- 1)", "- -(1)"}, {"-(-(-(1)))", "- - -(1)"}, {"-(X)", "- _0"}, {"-a", "- a"}, {"- -a", "- - a"}, {"-(-)", "- (-)"}, {"-('- ')", "- '- '"}, {"-(-,-)", "(-) - (-)"}, {"-[]", "- []"}, {"-{}", "- {}"}, {"-[1]", "- [1]"}, {"-{1}", "- {1}"}, {"-f(1)", "- f(1)"}, {"-(1,2,3)", "-(1,2,3)"},
		{"-1", "-1"}, {"-1+2", "(-1) + 2"}, {"1+(-2)", "1 + (-2)"}, {"1-(-1)", "1 - (-1)"}, {"1 - 1", "1 - 1"}, {"-(1)+2", "-(1) + 2"}, {"2- -(1)", "2 - -(1)"}, {"-(1)^2", "-(1) ^ 2"}, {"- 1^2", "- 1 ^ 2"}, {"(-a)^2", "(- a) ^ 2"}, {"-(a^2)", "- a ^ 2"}, {"-1^2", "(-1) ^ 2"}, {"-(1+2)", "- (1 + 2)"}, {"-a+b", "- a + b"}, {`\+ -1`, `\+ (-1)`}, {"f(-1,[-1|-1],{-1})", "f(-1,[-1|-1],{-1})"}, {"[-(1)]", "[-(1)]"}, {"1 - 0", "1 - 0"}, {"0-(0)", "0 - 0"},
		// Operators as atoms.
		{"-", "-"}, {":-", ":-"}, {"=", "="}, {"- = =", "(-) = (=)"}, {"f(-,=,:-)", "f(-,=,:-)"}, {"[-|-]", "[-|-]"}, {"[=,\\+]", "[=,\\+]"}, {"{-}", "{-}"}, {"{:-}", "{:-}"}, {`\+ (=)`, `\+ (=)`}, {"+(1)", "+(1)"}, {"+(1)-2", "+(1) - 2"}, {":- (:- (a,b,c))", ":- (:- a, b, c)"}, {"- :-(a,b,c)", "- :-(a,b,c)"}, {"- =(a)", "- =(a)"}, {"mod mod mod", "(mod) mod (mod)"}, {"a;!", "a ; !"}, {"! = (;)", "! = (;)"}, {"'$' = '?'", "$ = ?"},
		// Arguments, items, tails, and what stands between { and }.
		{"f((a:-b),(c,d),e=f)", "f((a :- b),(c, d),e = f)"}, {"f(:-,(a:-b))", "f(:-,(a :- b))"}, {"f((:-a))", "f((:- a))"}, {"f((a;b))", "f((a ; b))"}, {"f((a->b))", "f((a -> b))"}, {`f(\+a)`, `f(\+ a)`}, {"[(a,b),c=d|(e:-f)]", "[(a, b),c = d|(e :- f)]"}, {"[a|b-c]", "[a|b - c]"}, {"[a|[b|[]]]", "[a,b]"}, {"[[a=b]]=[]", "[[a = b]] = []"},
		{"{a}", "{a}"}, {"{a:-b,c}", "{a :- b, c}"}, {"{(a,b)}", "{a, b}"}, {"{}(a,b)", "{}(a,b)"}, {"{{}}", "{{}}"}, {"{[]}", "{[]}"}, {"{}({a})", "{{a}}"}, {"-{a}", "- {a}"}, {"{-a}={b}", "{- a} = {b}"}, {"{}", "{}"}, {"[]", "[]"}, {"[](a-b)", "[](a - b)"}, {"'.'(a-b)", "'.'(a - b)"}, {"'.'(a,b)", "[a|b]"}, {"'A'(a-b,'B')", "'A'(a - b,'B')"}, {"'a b'-'c d'", "'a b' - 'c d'"}, {"X-Y-X", "_0 - _1 - _0"},
	} {
		writes(t, ops, k[0], k[1])
	}
}

// P11.1: operators of each type beside those of an equal, a higher and a lower precedence, and of the precedences at which brackets begin to be needed.
func TestOperators(t *testing.T) {
	ops := table(t)
	for _, k := range [][2]string{
		{"(a xx b)xx c", "(a xx b) xx c"}, {"a xx(b xx c)", "a xx (b xx c)"}, {"(a yx b)yx c", "a yx b yx c"}, {"a yx(b yx c)", "a yx (b yx c)"}, {"(a xy b)xy c", "(a xy b) xy c"}, {"a xy(b xy c)", "a xy b xy c"},
		// What lets stand on its right as much as the operator behind it has stands between brackets.
		{"(a xy b)yx c", "(a xy b) yx c"}, {"(a xx b)yx c", "a xx b yx c"}, {"(fy a)yx b", "(fy a) yx b"}, {"(fx a)yx b", "fx a yx b"}, {"(fy a)xx b", "(fy a) xx b"}, {"(lfy a)yx b", "lfy a yx b"}, {"(a lxy b)yx c", "a lxy b yx c"}, {"(a lxy b)xx c", "a lxy b xx c"}, {"(lfy a)lyx b", "(lfy a) lyx b"}, {"(a yx b)lyx c", "(a yx b) lyx c"}, {"(fy a)xy b", "(fy a) xy b"}, {"(both a)both b", "(both a) both b"}, {"both(a)both b", "(both a) both b"}, {"both (a both b)", "both a both b"}, {"(a both b)both c", "a both b both c"}, {"both both a", "both both a"}, {"both (both)", "both (both)"}, {"(both)both(both)", "(both) both (both)"}, {"both(a,b,c)", "both(a,b,c)"},
		{"fy fy a", "fy fy a"}, {"fx(fx a)", "fx (fx a)"}, {"fx(fy a)", "fx (fy a)"}, {"fy fx a", "fy fx a"}, {"fx lfy a", "fx lfy a"}, {"fy(a xx b)", "fy a xx b"}, {"fx(a xx b)", "fx (a xx b)"}, {"fx(a lxx b)", "fx a lxx b"}, {"a xx(fy b)", "a xx (fy b)"}, {"a xy fy b", "a xy fy b"}, {"a yx(fy b)", "a yx (fy b)"}, {"a yx lfy b", "a yx lfy b"}, {"a lxx(b xx c)", "a lxx (b xx c)"}, {"a xx b lxx c", "a xx b lxx c"}, {"fy - 1", "fy -(1)"}, {"fy -1", "fy (-1)"}, {"fx 1", "fx 1"}, {"fy(1)", "fy 1"},
		// Of precedence 1, and about 999, 1000 and 1200.
		{"a one b", "a one b"}, {"(a one b)one c", "(a one b) one c"}, {"onefx(onefx a)", "onefx (onefx a)"}, {"onefy onefy a", "onefy onefy a"}, {"(onefy a)oneyx b", "(onefy a) oneyx b"}, {"(onefx a)oneyx b", "onefx a oneyx b"}, {"(a onexy b)oneyx c", "(a onexy b) oneyx c"}, {"(a oneyx b)oneyx c", "a oneyx b oneyx c"}, {"a onexy b onexy c", "a onexy b onexy c"}, {"f(onefx a,[b one c|d one e])", "f(onefx a,[b one c|d one e])"},
		{"f(close a)", "f(close a)"}, {"f((wide a))", "f((wide a))"}, {"f((a near b))", "f((a near b))"}, {"[close a,(wide b)|(c near d)]", "[close a,(wide b)|(c near d)]"}, {"{wide a near b}", "{wide a near b}"}, {"close a,b", "close a, b"}, {"(wide a),b", "(wide a), b"}, {"a,wide b", "a, wide b"}, {"wide a,b", "wide a, b"}, {"close(a,b)", "close(a,b)"}, {"close (a,b)", "close (a, b)"}, {"(a,b)near c", "a, b near c"}, {"(a near b),c", "(a near b), c"},
		{"a top b top c", "a top b top c"}, {"(a top b)top c", "(a top b) top c"}, {"(:-a)top b", "(:- a) top b"}, {"a top(:-b)", "a top :- b"}, {"(a:-b)top c", "(a :- b) top c"}, {"a top(b:-c)", "a top b :- c"}, {"{a top b}", "{a top b}"}, {"f((a top b))", "f((a top b))"},
		// Rows of signs.
		{"a +. b", "a +. b"}, {"- (+.)", "- (+.)"}, {"(+.)+.(=..)", "(+.) +. (=..)"}, {"f(+.)", "f(+.)"}, {"\\ = //", "\\ = (//)"}, {"* - (/)", "(*) - (/)"}, {"'/*' - 1", "'/*' - 1"}, {"+. = ..", "(+.) = .."}, {"-(\\)", "- \\"}, {".. - ..", ".. - .."},
	} {
		writes(t, ops, k[0], k[1])
	}
	// An operator that is gone is a name like others, and one that has come is none.
	for _, o := range []api.Op{{Type: api.OpFy, Name: "-"}, {Type: api.OpXfx, Name: "="}, {Prec: 700, Type: api.OpXfx, Name: "likes"}, {Prec: 700, Type: api.OpFy, Name: "+"}} {
		if e := ops.Set(o); e != api.OK {
			t.Fatal(o, e)
		}
	}
	for _, k := range [][2]string{
		{"-(a)", "-(a)"}, {"-(1)", "-(1)"}, {"- - (-)", "(-) - (-)"}, {"=(a,b)", "=(a,b)"}, {"= - (=)", "= - ="}, {"ann likes bob", "ann likes bob"}, {"likes(ann)", "likes(ann)"}, {"f(likes)", "f(likes)"}, {"+ +1", "+ + 1"}, {"+1", "+ 1"}, {"+(-1)", "+ (-1)"}, {"1+(+1)", "1 + (+ 1)"},
	} {
		writes(t, ops, k[0], k[1])
	}
}

// P11.1: without operators but the comma, which stays.
func TestFewOperators(t *testing.T) {
	ops := oper.New()
	for _, o := range ops.All() {
		if o.Name != "," {
			o.Prec = 0
			if e := ops.Set(o); e != api.OK {
				t.Fatal(o, e)
			}
		}
	}
	for _, k := range [][2]string{{":-(a,(b,c))", ":-(a,(b, c))"}, {"-(a)", "-(a)"}, {"{a,b}", "{a, b}"}, {"-,+", "-, +"}, {"-1,-(1)", "(-1), -(1)"}} {
		writes(t, ops, k[0], k[1])
	}
}

// P11.1, P11.2: terms that may not be are refused, behind all else that is named ahead, with nothing beside.
func TestRefused(t *testing.T) {
	ops := oper.New()
	for _, k := range bad {
		for what, refuse := range map[string]func() (string, api.Errno){
			"Canon":    func() (string, api.Errno) { return write.Canon(k.term) },
			"Text":     func() (string, api.Errno) { return write.Text(k.term, ops) },
			"Clause":   func() (string, api.Errno) { return write.Clause(k.term, ops) },
			"Bindings": func() (string, api.Errno) { return write.Bindings([]string{"X"}, []api.Term{k.term}) },
			"Bindings of _": func() (string, api.Errno) {
				return write.Bindings([]string{"X", "_"}, []api.Term{sized(api.MaxSource + 1), k.term})
			},
		} {
			if s, e := refuse(); s != "" || e != k.want {
				t.Errorf("%s of %s: %.80q, %d, not %d", what, k.what, s, e, k.want)
			}
		}
		if s, e := write.Text(k.term, nil); s != "" || e != api.ErrArg {
			t.Errorf("Text without a table of %s: %.80q, %d", k.what, s, e)
		}
		if s, e := write.Clause(k.term, nil); s != "" || e != api.ErrArg {
			t.Errorf("Clause without a table of %s: %.80q, %d", k.what, s, e)
		}
		for _, names := range [][]string{nil, {"X", "Y"}, {"_", "_"}} {
			if s, e := write.Bindings(names, []api.Term{k.term}); s != "" || e != api.ErrArg {
				t.Errorf("Bindings of %q and %s: %.80q, %d", names, k.what, s, e)
			}
		}
	}
	for _, x := range []api.Term{a("a"), sized(api.MaxSource + 1)} {
		if s, e := write.Text(x, nil); s != "" || e != api.ErrArg {
			t.Error("Text without a table", s, e)
		}
		if s, e := write.Clause(x, nil); s != "" || e != api.ErrArg {
			t.Error("Clause without a table", s, e)
		}
	}
}

// P11.1: a text of as many bytes as there may be, and of one more.
func TestLongTexts(t *testing.T) {
	ops := oper.New()
	for size := api.MaxSource - 9; size < api.MaxSource+9; size++ {
		x := sized(size)
		canon, e1 := write.Canon(x)
		text, e2 := write.Text(x, ops)
		clause, e3 := write.Clause(x, ops)
		below, e4 := write.Text(c("-", x, a("b")), ops)
		for _, k := range []struct {
			what, text string
			e          api.Errno
			size       int
		}{{"Canon", canon, e1, size}, {"Text", text, e2, size}, {"Clause", clause, e3, size + 3}, {"Text", below, e4, size + 4}} {
			switch {
			case k.size <= api.MaxSource && (len(k.text) != k.size || k.e != api.OK):
				t.Errorf("%s: %d bytes, %d, not %d bytes", k.what, len(k.text), k.e, k.size)
			case k.size > api.MaxSource && (k.text != "" || k.e != api.ErrLong):
				t.Errorf("%s of %d bytes: %d bytes, %d", k.what, k.size, len(k.text), k.e)
			}
		}
	}
	// It is the bytes as they are written that count.
	quoted := wide(2, a(strings.Repeat("\x01", 64)))
	if s, e := write.Canon(quoted); s != "" || e != api.ErrLong {
		t.Error(len(s), e)
	}
	x := wide(2, a(strings.Repeat("\x01", 63)))
	x.L[0].L[0] = a("a")
	if s, e := write.Canon(x); len(s) != 255*(63*4+2)+1+16*(16+2)+17+1 || e != api.OK {
		t.Error(len(s), e)
	}
}

// P11.1: terms as deep and as large as they may be are written.
func TestLargeTerms(t *testing.T) {
	ops := oper.New()
	ones := slices.Repeat([]api.Term{i(1)}, 199)
	x := list(a("[]"), ones...)
	if s, e := write.Text(x, ops); s != "["+strings.Repeat("1,", 198)+"1]" || e != api.OK {
		t.Error(s, e)
	}
	x = nested(199, v(3))
	if s, e := write.Canon(x); s != strings.Repeat("s(", 199)+"_3"+strings.Repeat(")", 199) || e != api.OK {
		t.Error(s, e)
	}
	left, right, minus := i(1), i(1), a("a")
	for range 199 {
		left, right, minus = c("-", left, i(1)), c("-", i(1), right), c("-", minus)
	}
	for _, k := range []struct {
		x    api.Term
		want string
	}{
		{left, strings.Repeat("1 - ", 199) + "1"},
		{right, strings.Repeat("1 - (", 198) + "1 - 1" + strings.Repeat(")", 198)},
		{minus, strings.Repeat("- ", 199) + "a"},
	} {
		if s, e := write.Text(k.x, ops); s != k.want || e != api.OK {
			t.Error(s, e)
		}
		agrees(t, k.x, ops)
	}
	// 4096 parts.
	var l []api.Term
	for range 14 {
		l = append(l, wide(2, v(1)))
	}
	x = c("f", append(l, nested(190, i(-1)), c("-", nested(80, a("a"))))...)
	if e := term.Check(c("g", x)); e != api.ErrMany {
		t.Error(e)
	}
	agrees(t, x, ops)
}

// P11.2: names and what they are bound to.
func TestBindings(t *testing.T) {
	x, y, z := v(5), v(3), v(api.MaxVar-1)
	for _, k := range []struct {
		names []string
		terms []api.Term
		want  string
	}{
		{nil, nil, "true"}, {[]string{}, []api.Term{}, "true"}, {[]string{"_"}, []api.Term{i(1)}, "true"}, {[]string{"_", "_"}, []api.Term{x, sized(api.MaxSource + 1)}, "true"},
		{[]string{"X"}, []api.Term{i(1)}, "X = 1"}, {[]string{"X"}, []api.Term{x}, "X = _0"}, {[]string{"X", "Y"}, []api.Term{i(-1), a("a b")}, "X = -1, Y = 'a b'"},
		{[]string{"X", "Y", "Z"}, []api.Term{x, y, z}, "X = _0, Y = _1, Z = _2"}, {[]string{"X", "Y", "Z"}, []api.Term{c("f", z, y, z), y, c("g", x, z)}, "X = f(_0,_1,_0), Y = _1, Z = g(_2,_0)"},
		{[]string{"A", "B"}, []api.Term{x, x}, "A = _0, B = _0"}, {[]string{"A", "B"}, []api.Term{v(1), v(0)}, "A = _0, B = _1"},
		// What is bound to _ does not count, nor do its variables.
		{[]string{"_", "X"}, []api.Term{y, c("f", x, y)}, "X = f(_0,_1)"}, {[]string{"X", "_"}, []api.Term{x, y}, "X = _0"}, {[]string{"_", "X", "_", "Y", "_"}, []api.Term{y, x, z, z, i(1)}, "X = _0, Y = _1"},
		{[]string{"_X", "__", "_0"}, []api.Term{i(1), i(2), i(3)}, "_X = 1, __ = 2, _0 = 3"}, {[]string{"X", "X"}, []api.Term{i(1), i(2)}, "X = 1, X = 2"}, {[]string{"", "a b"}, []api.Term{i(1), i(2)}, " = 1, a b = 2"},
		// The texts are canonical.
		{[]string{"X"}, []api.Term{c("-", i(1), c("-", i(2)))}, "X = -(1,-(2))"}, {[]string{"X"}, []api.Term{c(",", a("-"), a(","))}, "X = ','(-,',')"}, {[]string{"X", "Y"}, []api.Term{a("[]"), list(a("[]"), i(1))}, "X = [], Y = [1]"}, {[]string{"X"}, []api.Term{c("{}", i(1))}, "X = {}(1)"},
	} {
		if s, e := write.Bindings(k.names, k.terms); s != k.want || e != api.OK {
			t.Errorf("Bindings(%q, %v) = %q, %d, not %q", k.names, k.terms, s, e, k.want)
		}
	}
}

// P11.2: what is wrong is told in order: how many there are, the first term that may not be, and that all is too long.
func TestBindingsRefused(t *testing.T) {
	deep, none, many, long := nested(200, a("a")), api.Term{}, wide(3, a("a")), sized(api.MaxSource+1)
	for _, k := range []struct {
		names []string
		terms []api.Term
		want  api.Errno
	}{
		{[]string{"X"}, nil, api.ErrArg}, {nil, []api.Term{i(1)}, api.ErrArg}, {[]string{"X", "Y"}, []api.Term{i(1)}, api.ErrArg}, {[]string{"_"}, nil, api.ErrArg}, {[]string{"X"}, []api.Term{i(1), i(2)}, api.ErrArg},
		{[]string{"X", "Y"}, []api.Term{deep, none}, api.ErrDepth}, {[]string{"X", "Y"}, []api.Term{none, deep}, api.ErrTerm}, {[]string{"X", "Y"}, []api.Term{many, deep}, api.ErrMany}, {[]string{"_", "Y"}, []api.Term{many, deep}, api.ErrMany}, {[]string{"X", "_"}, []api.Term{i(1), none}, api.ErrTerm},
		{[]string{"X", "Y"}, []api.Term{long, none}, api.ErrTerm}, {[]string{"X", "Y"}, []api.Term{long, i(1)}, api.ErrLong}, {[]string{"X", "Y"}, []api.Term{i(1), long}, api.ErrLong}, {[]string{"X", "Y"}, []api.Term{sized(40000), sized(40000)}, api.ErrLong},
	} {
		if s, e := write.Bindings(k.names, k.terms); s != "" || e != k.want {
			t.Errorf("Bindings(%q, %.80v) = %.80q, %d, not %d", k.names, k.terms, s, e, k.want)
		}
	}
}

// P11.2: a text of as many bytes as there may be, and of one more, whatever makes it long.
func TestLongBindings(t *testing.T) {
	for more := -3; more < 4; more++ {
		size := api.MaxSource + more
		for what, k := range map[string]struct {
			names []string
			terms []api.Term
		}{
			"a term":          {[]string{"X"}, []api.Term{sized(size - 4)}},
			"a name":          {[]string{strings.Repeat("X", size-4)}, []api.Term{i(1)}},
			"the last of two": {[]string{"X", "_", "Yy"}, []api.Term{i(1), sized(70000), sized(size - 12)}},
			"two":             {[]string{"X", "Y"}, []api.Term{sized(30000), sized(size - 30010)}},
			"the last name":   {[]string{"X", strings.Repeat("Y", size-12)}, []api.Term{i(17), i(1)}},
		} {
			s, e := write.Bindings(k.names, k.terms)
			switch {
			case more <= 0 && (len(s) != size || e != api.OK):
				t.Errorf("%s: %d bytes, %d, not %d bytes", what, len(s), e, size)
			case more > 0 && (s != "" || e != api.ErrLong):
				t.Errorf("%s of %d bytes: %d bytes, %d", what, size, len(s), e)
			}
		}
	}
	// There may be any number of terms.
	many := make([]string, 100000)
	terms := make([]api.Term, len(many))
	for j := range many {
		many[j], terms[j] = "_", v(j)
	}
	if s, e := write.Bindings(many, terms); s != "true" || e != api.OK {
		t.Error(len(s), e)
	}
	for j := range many {
		many[j] = "X"
	}
	if s, e := write.Bindings(many, terms); s != "" || e != api.ErrLong {
		t.Error(len(s), e)
	}
	want := ""
	for j := range 3000 {
		want += ", X = _" + strconv.Itoa(j)
	}
	if s, e := write.Bindings(many[90000:93000], terms[90000:93000]); s != want[2:] || e != api.OK {
		t.Error(len(s), e)
	}
}

// R3: what is handed in stays, and the room behind a list's end is not looked at.
func TestStays(t *testing.T) {
	ops := table(t)
	room := []api.Term{c("-", i(-1), a("-")), c(",", v(4), v(2)), {Kind: 9}}
	x := c("f", room[:2]...)
	names := []string{"X", "Y", "Z"}
	before, all := meant(x, ops).text, ops.All()
	for range 2 {
		s1, e1 := write.Canon(x)
		s2, e2 := write.Text(x, ops)
		s3, e3 := write.Bindings(names[:2], room[:2])
		if s1 != "f(-(-1,-),','(_4,_2))" || s2 != before || s3 != "X = -(-1,-), Y = ','(_0,_1)" || e1 != api.OK || e2 != api.OK || e3 != api.OK {
			t.Error(s1, e1, s2, e2, s3, e3)
		}
	}
	if room[2].Kind != 9 || names[2] != "Z" || !slices.Equal(ops.All(), all) {
		t.Error(room, names)
	}
}
