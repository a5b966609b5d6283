package write_test

import (
	"strconv"
	"strings"
	"testing"

	"elenchus/api"
	"elenchus/oper"
	"elenchus/parse"
	"elenchus/term"
	"elenchus/token"
	"elenchus/write"
)

// The texts again, by other means: from the innermost parts outwards, each with all that tells whether there must be brackets around it.

// piece is a term's text.
type piece struct {
	text  string
	prec  int  // of the operator that it is written by, 0 if there is none
	right int  // what that lets stand on its right
	touch bool // beside an operator it stands between brackets
}

// within answers the text where one of at most that precedence may stand.
func (p piece) within(most int) string {
	if p.prec > most {
		return "(" + p.text + ")"
	}
	return p.text
}

// beside answers the text where one of at most that precedence may stand beside an operator.
func (p piece) beside(most int) string {
	if p.touch {
		return "(" + p.text + ")"
	}
	return p.within(most)
}

// meant answers the text that is meant, by the operators, or the canonical one, if there are none.
func meant(t api.Term, ops *oper.Table) piece {
	var parts []piece
	for _, arg := range t.L {
		parts = append(parts, meant(arg, ops))
	}
	name := t.S
	if !token.Plain(name) {
		name = token.Quote(name)
	}
	switch t.Kind {
	case api.KindVar:
		return piece{text: "_" + strconv.Itoa(t.N)}
	case api.KindInt:
		return piece{text: strconv.Itoa(t.N), touch: t.N < 0}
	case api.KindAtom:
		return piece{text: name, touch: ops.Is(t.S)}
	}
	if o, is := ops.Infix(t.S); is && len(parts) == 2 {
		most := oper.Left(o)
		if parts[0].prec > 0 && parts[0].right >= o.Prec {
			most = 0
		}
		sign := " " + o.Name + " "
		if o.Name == "," {
			sign = ", "
		}
		return piece{text: parts[0].beside(most) + sign + parts[1].beside(oper.Right(o)), prec: o.Prec, right: oper.Right(o)}
	}
	if o, is := ops.Prefix(t.S); is && len(parts) == 1 && (t.S != "-" || t.L[0].Kind != api.KindInt) {
		return piece{text: o.Name + " " + parts[0].beside(oper.Right(o)), prec: o.Prec, right: oper.Right(o)}
	}
	if ops != nil && t.S == "{}" && len(parts) == 1 {
		return piece{text: "{" + parts[0].text + "}"}
	}
	if t.S == "." && len(parts) == 2 {
		return piece{text: "[" + parts[0].within(999) + listed(t.L[1], parts[1])}
	}
	var args []string
	for _, p := range parts {
		args = append(args, p.within(999))
	}
	return piece{text: name + "(" + strings.Join(args, ",") + ")"}
}

// listed answers what stands behind a list's item: the text of the rest is that of a list, if it is one.
func listed(rest api.Term, p piece) string {
	switch {
	case rest.Kind == api.KindComp && rest.S == "." && len(rest.L) == 2:
		return "," + p.text[1:]
	case rest.Kind == api.KindAtom && rest.S == "[]":
		return "]"
	}
	return "|" + p.within(999) + "]"
}

// agrees checks all that is written of the term by these operators, and that it is read as a variant.
func agrees(t *testing.T, x api.Term, ops *oper.Table) {
	t.Helper()
	canon, e := write.Canon(x)
	if want := meant(x, nil).text; canon != want || e != api.OK {
		t.Fatalf("Canon(%.300v) = %.300q, %d, not %.300q", x, canon, e, want)
	}
	text, e := write.Text(x, ops)
	if want := meant(x, ops).text; text != want || e != api.OK {
		t.Fatalf("Text(%.300s) = %.300q, %d, not %.300q", canon, text, e, want)
	}
	clause, e := write.Clause(x, ops)
	if clause != text+" .\n" || e != api.OK {
		t.Fatalf("Clause(%.300s) = %.300q, %d", canon, clause, e)
	}
	for _, c := range []struct {
		text string
		ops  *oper.Table
	}{{canon, ops}, {canon, oper.New()}, {text, ops}} {
		if r, e := parse.One(c.text, c.ops); e != api.OK || !term.Variant(r.Term, x) {
			t.Fatalf("%.300s is written %.300q, which is read as %.300v, %d, by %v", canon, c.text, r.Term, e, c.ops.All())
		}
	}
	if l, n, e := parse.All([]byte(clause), ops); e != api.OK || len(l) != 1 || n != len(clause) || !term.Variant(l[0].Term, x) {
		t.Fatalf("%.300q is read as %.300v, %d, %d", clause, l, n, e)
	}
}

// layer answers the leaves, and all compounds of these names and of one or two of the inner terms.
func layer(leaves, inner []api.Term, names ...string) []api.Term {
	all := append([]api.Term(nil), leaves...)
	for _, name := range names {
		for _, x := range inner {
			all = append(all, c(name, x))
			for _, y := range inner {
				all = append(all, c(name, x, y))
			}
		}
	}
	return all
}

// P11.1, P11.3: all small terms are written as is meant, and read as variants, by operators of all types that stand above, beside and below one another.
func TestAllSmallTerms(t *testing.T) {
	ops := table(t)
	for _, k := range []struct {
		names  []string
		leaves []api.Term
	}{
		{[]string{"-", "^", "a"}, []api.Term{i(1), i(-1), a("-"), v(0)}},
		{[]string{"yx", "fy", "xy"}, []api.Term{i(1), a("xy"), a("fy")}},
		{[]string{"xx", "fx", "both"}, []api.Term{v(0), a("both"), a("[]")}},
		{[]string{"both", "lfy", "lyx"}, []api.Term{a("a"), a("lfy")}},
		{[]string{"lxy", "fx", "xy"}, []api.Term{a("{}"), i(-1)}},
		{[]string{",", ":-", "wide"}, []api.Term{a(","), a(":-"), i(0)}},
		{[]string{"close", ".", "{}"}, []api.Term{a("close"), a("[]"), i(-1)}},
		{[]string{".", "near", ","}, []api.Term{a("."), a("near"), v(0)}},
		{[]string{"one", "onefx", "onefy"}, []api.Term{i(1), a("one"), v(1)}},
		{[]string{"onefy", "oneyx", "onexy"}, []api.Term{i(1), a("onefy")}},
		{[]string{"+.", "=..", "/*"}, []api.Term{a("+."), a("=.."), a("/*")}},
		{[]string{"[]", "-", "{}"}, []api.Term{a("[]"), a("{}"), i(1)}},
	} {
		for _, x := range layer(k.leaves, layer(k.leaves, k.leaves, k.names...), k.names...) {
			agrees(t, x, ops)
		}
	}
}

// source is numbers in no order, the same ones each time.
type source uint64

// next answers a number from 0 to n - 1.
func (s *source) next(n int) int {
	*s = *s*6364136223846793005 + 1442695040888963407
	return int(uint64(*s)>>33) % n
}

// names are those of the operators of anyTable, and of terms.
var names = []string{"a", "b", "-", "+", "=..", ".+", "*/", "!", ";", "foo", "/", "?"}

// anyTable answers a table of some operators of some of the names.
func anyTable(s *source) *oper.Table {
	ops := oper.New()
	precs := []int{0, 1, 2, 3, 199, 200, 201, 200, 200, 500, 998, 999, 1000, 1001, 1199, 1200}
	for range 24 {
		// An operator that is not there may be taken out in vain.
		ops.Set(api.Op{Prec: precs[s.next(len(precs))], Type: 1 + s.next(5), Name: names[s.next(len(names))]})
	}
	return ops
}

// anyTerm answers a term of at most so many levels.
func anyTerm(s *source, levels int) api.Term {
	kind := s.next(10)
	if levels == 1 {
		kind = s.next(4)
	}
	name := names[s.next(len(names))]
	if s.next(5) == 0 {
		name = []string{",", "[]", "{}", ".", ":-", "|", "", "x y"}[s.next(8)]
	}
	switch kind {
	case 0:
		return v(s.next(4))
	case 1:
		return i(s.next(5) - 2)
	case 2, 3:
		return a(name)
	case 4:
		list := a("[]")
		if s.next(3) == 0 {
			list = anyTerm(s, levels-1)
		}
		for range s.next(4) {
			list = c(".", anyTerm(s, levels-1), list)
		}
		return list
	}
	l := []api.Term{anyTerm(s, levels-1)}
	for kind > 5 && len(l) < kind-5 && len(l) < 3 {
		l = append(l, anyTerm(s, levels-1))
	}
	return c(name, l...)
}

// P11.1, P11.3: so are larger ones, by any operators.
func TestAnyTerms(t *testing.T) {
	s := source(7)
	for range 1500 {
		ops := anyTable(&s)
		for range 40 {
			agrees(t, anyTerm(&s, 2+s.next(5)), ops)
		}
	}
}
