package parse

import (
	"slices"

	"elenchus/api"
	"elenchus/oper"
	"elenchus/term"
)

// parser reads a clause's tokens. Where it answers that it could not, the next token is the one that may not stand there. It never goes behind the last one, the point.
type parser struct {
	tokens  []api.Token
	at      int // which one is next
	ops     *oper.Table
	numbers map[string]int // the variables', by their names
	names   []string       // the variables', by their numbers
}

// piece is a term, and the precedence that it has where it stands.
type piece struct {
	term api.Term
	prec int
}

// next answers the next token.
func (p *parser) next() api.Token {
	return p.tokens[p.at]
}

// isNext tells whether the next token is that sign.
func (p *parser) isNext(sign string) bool {
	return isPunct(p.next(), sign)
}

// take goes behind the next token, if it is that sign.
func (p *parser) take(sign string) bool {
	if !p.isNext(sign) {
		return false
	}
	p.at++
	return true
}

// term reads a term of at most that precedence.
func (p *parser) term(most int) (piece, bool) {
	left, ok := p.operand(most)
	for ok {
		o, is := p.infix()
		if !is || o.Prec > most || left.prec > oper.Left(o) {
			break
		}
		p.at++
		var right piece
		right, ok = p.term(oper.Right(o))
		left = piece{term: compound(o.Name, left.term, right.term), prec: o.Prec}
	}
	return left, ok
}

// infix answers the infix operator that the next token is, if it is one.
func (p *parser) infix() (api.Op, bool) {
	x := p.next()
	if x.Kind != api.TokAtom && !isPunct(x, ",") {
		return api.Op{}, false
	}
	return p.ops.Infix(x.S)
}

// operand reads an operand of at most that precedence.
func (p *parser) operand(most int) (piece, bool) {
	if long := p.nameLength(); long > 0 {
		return p.named(long, most)
	}
	x := p.next()
	switch {
	case x.Kind == api.TokInt:
		p.at++
		return piece{term: term.Int(x.N)}, true
	case x.Kind == api.TokVar:
		p.at++
		return piece{term: p.variable(x.S)}, true
	case p.take("("):
		inner, ok := p.term(api.MaxPrec)
		return piece{term: inner.term}, ok && p.take(")")
	case p.take("["):
		return p.list()
	case p.take("{"):
		inner, ok := p.term(api.MaxPrec)
		return piece{term: compound("{}", inner.term)}, ok && p.take("}")
	}
	return piece{}, false
}

// nameLength answers of how many tokens the name is that is next; 0, if none is.
func (p *parser) nameLength() int {
	x := p.next()
	switch {
	case x.Kind == api.TokAtom, x.Kind == api.TokQuoted:
		return 1
	case isPunct(x, "[") && isPunct(p.tokens[p.at+1], "]"), isPunct(x, "{") && isPunct(p.tokens[p.at+1], "}"):
		return 2
	}
	return 0
}

// named reads an operand of at most that precedence that begins with a name of so many tokens.
func (p *parser) named(long, most int) (piece, bool) {
	first := p.next()
	name := ""
	for range long {
		name += p.next().S
		p.at++
	}
	behind := p.next()
	if p.opensArguments(p.at) {
		p.at++
		return p.arguments(name)
	}
	if first.Kind == api.TokAtom && name == "-" && behind.Kind == api.TokInt && !behind.Layout {
		p.at++
		return piece{term: term.Int(-behind.N)}, true
	}
	o, is := p.ops.Prefix(name)
	if is && first.Kind == api.TokAtom && o.Prec <= most && p.mayBegin(p.at) {
		right, ok := p.term(oper.Right(o))
		return piece{term: compound(name, right.term), prec: o.Prec}, ok
	}
	return piece{term: term.Atom(name)}, true
}

// opensArguments tells whether that token opens the arguments of the name that ends ahead of it.
func (p *parser) opensArguments(at int) bool {
	x := p.tokens[at]
	return isPunct(x, "(") && !x.Layout
}

// mayBegin tells whether that token may begin an operand behind a prefix operator.
func (p *parser) mayBegin(at int) bool {
	x := p.tokens[at]
	switch x.Kind {
	case api.TokInt, api.TokVar, api.TokQuoted:
		return true
	case api.TokPunct:
		return x.S == "(" || x.S == "[" || x.S == "{"
	case api.TokAtom:
		_, infix := p.ops.Infix(x.S)
		_, prefix := p.ops.Prefix(x.S)
		return !infix || prefix || p.opensArguments(at+1)
	}
	return false
}

// arguments reads the arguments of the compound of that name.
func (p *parser) arguments(name string) (piece, bool) {
	l, ok := p.row(func(n int) bool { return n < api.MaxArity })
	return piece{term: compound(name, l...)}, ok && p.take(")")
}

// list reads the items of a list, and its tail.
func (p *parser) list() (piece, bool) {
	items, ok := p.row(func(int) bool { return true })
	tail := piece{term: term.Atom("[]")}
	if ok && p.take("|") {
		tail, ok = p.term(api.ArgPrec)
	}
	list := tail.term
	for _, item := range slices.Backward(items) {
		list = compound(".", item, list)
	}
	return piece{term: list}, ok && p.take("]")
}

// row reads terms with a comma between each two, while a function, asked how many there are, tells that there may be one more.
func (p *parser) row(more func(n int) bool) ([]api.Term, bool) {
	var l []api.Term
	for {
		t, ok := p.term(api.ArgPrec)
		if !ok {
			return nil, false
		}
		l = append(l, t.term)
		if !p.isNext(",") || !more(len(l)) {
			return l, true
		}
		p.at++
	}
}

// variable answers the variable of that name, a new one if it has no name.
func (p *parser) variable(name string) api.Term {
	if n, is := p.numbers[name]; is {
		return term.Var(n)
	}
	n := len(p.names)
	p.names = append(p.names, name)
	if name != "_" {
		p.numbers[name] = n
	}
	return term.Var(n)
}

// compound makes a compound of arguments that nothing else holds. (term.Comp would copy them, and so a part once for each compound around it.)
func compound(name string, l ...api.Term) api.Term {
	return api.Term{Kind: api.KindComp, S: name, L: l}
}

// isPunct tells whether the token is that sign.
func isPunct(x api.Token, sign string) bool {
	return x.Kind == api.TokPunct && x.S == sign
}
