package parse_test

import (
	"slices"
	"strconv"
	"strings"
	"testing"

	"elenchus/api"
	"elenchus/oper"
	"elenchus/parse"
	"elenchus/token"
)

// The grammar again, by other means: what is begun and not ended lies on a stack, and each token ends, goes on with or begins something. Terms are told as show shows them.

// begun is what is begun: a clause (c), brackets of one of the kinds ( [ {, a list's tail (|), arguments (f), or an operator, behind which a term must stand (o).
type begun struct {
	what  byte
	most  int // the greatest precedence that may stand next
	name  string
	items string // what was read already, a blank ahead of each
	count int
	prec  int // that of the operator
}

// oracle reads a clause's tokens.
type oracle struct {
	table *oper.Table
	rest  []api.Token
	stack []begun
	names []string
	held  string // the term that was read last; none, if it is empty
	prec  int
}

// meant answers what Clause is meant to answer of a short text.
func meant(text string, at int, table *oper.Table) (string, []string, int, api.Errno) {
	o := oracle{table: table, stack: []begun{{what: 'c', most: 1200}}}
	for len(o.rest) == 0 || o.rest[len(o.rest)-1].Kind != api.TokEnd {
		x, next, e := token.Scan([]byte(text), at)
		if e == api.ErrNone && len(o.rest) > 0 {
			e = api.ErrEnd
		}
		if e != api.OK {
			return "", nil, next, e
		}
		o.rest = append(o.rest, x)
		at = next
	}
	for {
		could := false
		if o.held == "" {
			could = o.begin()
		} else {
			could = o.goOn()
		}
		if !could {
			return "", nil, o.rest[0].At, api.ErrSyntax
		}
		if len(o.stack) == 0 {
			return o.held, o.names, at, api.OK
		}
	}
}

// shown answers the name as show shows it.
func shown(name string) string {
	if name == "," || token.Plain(name) {
		return name
	}
	return strconv.Quote(name)
}

// drop goes behind so many tokens.
func (o *oracle) drop(n int) { o.rest = o.rest[n:] }

// hold notes what was read.
func (o *oracle) hold(term string, prec int) { o.held, o.prec = term, prec }

// push begins something.
func (o *oracle) push(b begun) {
	o.stack = append(o.stack, b)
	o.held = ""
}

// sign answers the sign or name that the token of that number is, with its kind ahead.
func (o *oracle) sign(n int) string {
	if n >= len(o.rest) {
		return ""
	}
	return strconv.Itoa(o.rest[n].Kind) + o.rest[n].S
}

// begin reads what stands where an operand must, as far as the next term that must stand within it.
func (o *oracle) begin() bool {
	most := o.stack[len(o.stack)-1].most
	name, long := "", 0
	switch x := o.rest[0]; {
	case x.Kind == api.TokInt:
		o.drop(1)
		o.hold(strconv.Itoa(x.N), 0)
		return true
	case x.Kind == api.TokVar:
		o.drop(1)
		n := slices.Index(o.names, x.S)
		if n < 0 || x.S == "_" {
			n = len(o.names)
			o.names = append(o.names, x.S)
		}
		o.hold("_"+strconv.Itoa(n), 0)
		return true
	case o.sign(0) == "5[" && o.sign(1) == "5]":
		name, long = "[]", 2
	case o.sign(0) == "5{" && o.sign(1) == "5}":
		name, long = "{}", 2
	case x.Kind == api.TokAtom, x.Kind == api.TokQuoted:
		name, long = x.S, 1
	case o.sign(0) == "5(", o.sign(0) == "5{":
		o.drop(1)
		o.push(begun{what: x.S[0], most: 1200})
		return true
	case o.sign(0) == "5[":
		o.drop(1)
		o.push(begun{what: '[', most: 999})
		return true
	default:
		return false
	}
	first, behind := o.rest[0], o.rest[long]
	prefix, is := o.table.Prefix(name)
	isOperator := is && first.Kind == api.TokAtom && prefix.Prec <= most && o.operandMayBegin(1)
	o.drop(long)
	switch {
	case o.sign(0) == "5(" && !behind.Layout:
		o.drop(1)
		o.push(begun{what: 'f', most: 999, name: name})
	case first.Kind == api.TokAtom && name == "-" && behind.Kind == api.TokInt && !behind.Layout:
		o.drop(1)
		o.hold(strconv.Itoa(-behind.N), 0)
	case isOperator:
		most := prefix.Prec
		if prefix.Type == api.OpFx {
			most--
		}
		o.push(begun{what: 'o', most: most, name: name, prec: prefix.Prec})
	default:
		o.hold(shown(name), 0)
	}
	return true
}

// operandMayBegin tells whether an operand may begin with the token of that number.
func (o *oracle) operandMayBegin(n int) bool {
	x := o.rest[n]
	if x.Kind == api.TokAtom {
		_, infix := o.table.Infix(x.S)
		_, prefix := o.table.Prefix(x.S)
		opens := o.sign(n+1) == "5(" && !o.rest[n+1].Layout
		return opens || prefix || !infix
	}
	return x.Kind == api.TokInt || x.Kind == api.TokVar || x.Kind == api.TokQuoted || slices.Contains([]string{"5(", "5[", "5{"}, o.sign(n))
}

// goOn reads what stands behind a term: an infix operator; or what ends that, or goes on with that, within which the term stands.
func (o *oracle) goOn() bool {
	top := &o.stack[len(o.stack)-1]
	x := o.rest[0]
	if infix, is := o.table.Infix(x.S); is && (x.Kind == api.TokAtom || o.sign(0) == "5,") && infix.Prec <= top.most {
		left, right := infix.Prec-1, infix.Prec-1
		switch infix.Type {
		case api.OpYfx:
			left++
		case api.OpXfy:
			right++
		}
		if o.prec <= left {
			o.drop(1)
			o.push(begun{what: 'o', most: right, name: infix.Name, items: " " + o.held, prec: infix.Prec})
			return true
		}
	}
	term := ""
	switch sign := o.sign(0); {
	case top.what == 'o':
		o.stack = o.stack[:len(o.stack)-1]
		o.hold("("+shown(top.name)+top.items+" "+o.held+")", top.prec)
		return true
	case top.what == 'c' && x.Kind == api.TokEnd:
		o.stack = nil
		return true
	case top.what == 'f' && sign == "5," && top.count < 15, top.what == '[' && sign == "5,", top.what == '[' && sign == "5|":
		top.items += " " + o.held
		top.count++
		if sign == "5|" {
			top.what = '|'
		}
		o.held = ""
		o.drop(1)
		return true
	case top.what == '(' && sign == "5)":
		term = o.held
	case top.what == '{' && sign == "5}":
		term = "({} " + o.held + ")"
	case top.what == 'f' && sign == "5)":
		term = "(" + shown(top.name) + top.items + " " + o.held + ")"
	case top.what == '[' && sign == "5]":
		term = listed(top.items+" "+o.held, "[]")
	case top.what == '|' && sign == "5]":
		term = listed(top.items, o.held)
	default:
		return false
	}
	o.stack = o.stack[:len(o.stack)-1]
	o.hold(term, 0)
	o.drop(1)
	return true
}

// listed answers the list of those items, as show shows it: a term's end is where all its brackets are shut.
func listed(items, tail string) string {
	open, shut := "", ""
	depth, from, quoted := 0, 0, false
	for at := 1; at <= len(items); at++ {
		if at == len(items) || items[at] == ' ' && depth == 0 && !quoted {
			open += `("."` + items[from:at] + " "
			shut += ")"
			from = at
			continue
		}
		switch c := items[at]; {
		case c == '"':
			quoted = !quoted
		case c == '(' && !quoted:
			depth++
		case c == ')' && !quoted:
			depth--
		}
	}
	return open + tail + shut
}

// agrees checks what Clause answers of the text, from that place on.
func agrees(t *testing.T, text string, at int, table *oper.Table) {
	t.Helper()
	want, names, next, wrong := meant(text, at, table)
	answers(t, text, at, table, want, names, next, wrong)
	if t.Failed() {
		t.FailNow()
	}
}

// each calls a function with all texts of at most so many pieces.
func each(pieces []string, most int, text string, visit func(text string)) {
	visit(text)
	if most > 0 {
		for _, piece := range pieces {
			each(pieces, most-1, text+piece, visit)
		}
	}
}

// P10.1: all short texts are read, or refused, as the grammar says.
func TestAllShortTexts(t *testing.T) {
	table := ops(t)
	for _, c := range []struct {
		pieces string
		most   int
	}{
		{"a|-|1| |(|)|=|,", 5}, {"[|]|BAR|,|a|_|-", 5}, {"{|}|(|)| |f|X|;", 5}, {"- |-1|1|(|-| ^ |a", 5},
		{" a| yx| xy| xx| fy| fx| both| lfx", 5}, {" both| =| fx| lyx| lxy| a| (| )", 5}, {":- |close |wide |,|a |[|]|f(|)", 5},
		{"a|. |.| |)|'b'|'", 5},
	} {
		pieces := strings.Split(c.pieces, "|")
		for i, piece := range pieces {
			pieces[i] = strings.ReplaceAll(piece, "BAR", "|")
		}
		each(pieces, c.most, "", func(text string) { agrees(t, text+" .", 0, table) })
	}
}

// source is numbers in no order, the same ones each time.
type source uint64

// next answers a number from 0 to n - 1.
func (s *source) next(n int) int {
	*s = *s*6364136223846793005 + 1442695040888963407
	return int(uint64(*s)>>33) % n
}

// operand and between are what stands in texts where an operand stands, and behind one.
var (
	operand = []string{"a", "X", "Y", "_", "_a", "1", "-1", "- 1", "'q r'", "'-'", "[]", "[ ]", "{}", "{ }", "(", "(", "[", "[", "{", "f(", "g(", "-(", "- (", "[](", "both ", "fy ", "fx ", `\+ `, "- ", ":- ", "wide ", "close ", "onefx ", "=", "mod", "!", ";", "','("}
	between = []string{",", ",", ")", ")", "]", "]", "}", "|", " = ", " - ", "-", " + ", " * ", " ^ ", " , ", " ; ", " :- ", " -> ", " xx ", " xy ", " yx ", " lxx ", " lxy ", " lyx ", " both ", " one "}
)

// anyText answers a text of some pieces, many of which stand where they may.
func anyText(s *source) string {
	var text strings.Builder
	shut := ""
	for range s.next(9) {
		for {
			piece := operand[s.next(len(operand))]
			text.WriteString(piece)
			switch piece[len(piece)-1] {
			case '(':
				shut = ")" + shut
				continue
			case '[':
				shut = "]" + shut
				continue
			case '{':
				shut = "}" + shut
				continue
			case ' ':
				continue
			}
			break
		}
		for s.next(3) == 0 && shut != "" {
			text.WriteString(shut[:1])
			shut = shut[1:]
		}
		text.WriteString(between[s.next(len(between))])
	}
	text.WriteString(operand[s.next(11)])
	if s.next(8) > 0 {
		text.WriteString(shut)
	}
	return text.String()
}

// P10.1, P10.2: so are longer ones, from the beginning and from any place on; and several clauses in one text.
func TestAnyTexts(t *testing.T) {
	table := ops(t)
	s := source(10)
	good := 0
	for range 30000 {
		text := anyText(&s)
		agrees(t, text+" .", 0, table)
		if _, _, _, e := meant(text+" .", 0, table); e == api.OK {
			good++
		}
		agrees(t, text+[]string{"", ".", " . ", "%."}[s.next(4)], s.next(len(text)), table)
	}
	if good < 3000 {
		t.Error("too few texts are clauses:", good)
	}
	for range 2000 {
		text := ""
		for range s.next(5) {
			text += anyText(&s) + []string{". ", " .\n", " . /* */ ", " .%\n"}[s.next(4)]
		}
		allAgree(t, text, table)
	}
}

// allAgree checks what All answers of the text.
func allAgree(t *testing.T, text string, table *oper.Table) {
	t.Helper()
	l, n, e := parse.All([]byte(text), table)
	at := 0
	for i := 0; ; i++ {
		want, names, next, wrong := meant(text, at, table)
		if wrong != api.OK {
			if wrong == api.ErrNone {
				wrong = api.OK
			}
			if len(l) != i || n != next || e != wrong {
				t.Fatalf("All(%q) = %d clauses, %d, %d, not %d, %d, %d", text, len(l), n, e, i, next, wrong)
			}
			return
		}
		if len(l) <= i || show(l[i].Term) != want || !slices.Equal(l[i].Names, names) || l[i].Next != next {
			t.Fatalf("All(%q) = %v, and the clause %d is %s", text, l, i, want)
		}
		at = next
	}
}

// laid answers the text of those tokens with other layout: none where there was none, if it would part a name from a bracket, or a - from a number; some where there was some; and where it changes nothing a function tells.
func laid(text string, tokens []api.Token, layout func() string) string {
	var whole strings.Builder
	for i, x := range tokens {
		ends := len(text)
		if i+1 < len(tokens) {
			ends = tokens[i+1].At
		}
		_, end, _ := token.Scan([]byte(text[:ends]), x.At)
		if i > 0 {
			ahead := tokens[i-1]
			opens := x.Kind == api.TokPunct && x.S == "(" && (ahead.Kind == api.TokAtom || ahead.Kind == api.TokQuoted || ahead.S == "]" || ahead.S == "}")
			minus := x.Kind == api.TokInt && ahead.Kind == api.TokAtom && ahead.S == "-"
			if x.Layout || !opens && !minus {
				whole.WriteString(layout())
			}
		}
		whole.WriteString(text[x.At:end])
	}
	return whole.String() + "\n"
}

// P10.3: blanks between tokens change nothing, but where they part a name, or a -, from what stands behind it. A clause in brackets is the same.
func TestBlanks(t *testing.T) {
	table := ops(t)
	s := source(11)
	layouts := []string{" ", "\n", "\t\r", " % a. 'b\n", " /* . */", " /**/ "}
	for range 20000 {
		text := anyText(&s) + " ."
		tokens, _, e := token.All([]byte(text))
		if e != api.OK {
			t.Fatal(text, e)
		}
		want, n, wrong := parse.Clause([]byte(text), 0, table)
		other := laid(text, tokens, func() string { return layouts[s.next(len(layouts))] })
		got, m, e := parse.Clause([]byte(other), 0, table)
		if e != wrong || show(got.Term) != show(want.Term) || !slices.Equal(got.Names, want.Names) {
			t.Fatalf("%q and %q: %v, %d; %v, %d", text, other, want, wrong, got, e)
		}
		others, _, e := token.All([]byte(other))
		if e != api.OK || len(others) != len(tokens) {
			t.Fatal(text, other, e)
		}
		if wrong != api.OK {
			// The same token is told.
			at := func(l []api.Token, place int) int {
				return slices.IndexFunc(l, func(x api.Token) bool { return x.At == place })
			}
			if at(others, m) != at(tokens, n) || at(tokens, n) < 0 {
				t.Fatal(text, n, other, m)
			}
			continue
		}
		got, m, e = parse.Clause([]byte("("+text[:len(text)-1]+")."), 0, table)
		if e != api.OK || m != n+2 || show(got.Term) != show(want.Term) || !slices.Equal(got.Names, want.Names) {
			t.Fatalf("%q in brackets: %v, %d, %d", text, got, m, e)
		}
	}
}
