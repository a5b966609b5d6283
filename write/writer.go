package write

import (
	"strconv"
	"strings"

	"elenchus/api"
	"elenchus/oper"
	"elenchus/token"
)

// writer is a text that is written, up to as many bytes as a text may have.
type writer struct {
	strings.Builder
	ops    *oper.Table     // none: the text is the canonical one
	number func(n int) int // which number a variable has in the text
	full   bool            // it would have been too long
}

// text answers what was written.
func (w *writer) text() (string, api.Errno) {
	if w.full {
		return "", api.ErrLong
	}
	return w.String(), api.OK
}

// put writes these pieces.
func (w *writer) put(pieces ...string) {
	for _, piece := range pieces {
		// Of a text that is too long nothing more is needed, however long it would become.
		w.full = w.full || w.Len()+len(piece) > api.MaxSource
		if !w.full {
			w.WriteString(piece)
		}
	}
}

// between writes what a function writes, between two brackets.
func (w *writer) between(open, shut string, inner func()) {
	w.put(open)
	inner()
	w.put(shut)
}

// term writes a term, of at most that precedence.
func (w *writer) term(t api.Term, most int) {
	o, is := w.operator(t)
	switch {
	case is && o.Prec > most:
		w.between("(", ")", func() { w.operation(t, o) })
	case is:
		w.operation(t, o)
	case t.Kind == api.KindVar:
		w.put("_", strconv.Itoa(w.number(t.N)))
	case t.Kind == api.KindInt:
		w.put(strconv.Itoa(t.N))
	case t.Kind == api.KindAtom:
		w.put(token.Quote(t.S))
	default:
		w.compound(t)
	}
}

// operator answers the operator that the term is written by, if it is written by one.
func (w *writer) operator(t api.Term) (api.Op, bool) {
	switch {
	case len(t.L) == 2 && !isPair(t):
		return w.ops.Infix(t.S)
	case len(t.L) == 1 && !isMinusOfInteger(t):
		return w.ops.Prefix(t.S)
	}
	return api.Op{}, false
}

// operation writes a compound by that operator.
func (w *writer) operation(t api.Term, o api.Op) {
	if len(t.L) == 2 {
		w.operand(t.L[0], w.left(t.L[0], o))
		if o.Name != "," {
			w.put(" ")
		}
	}
	w.put(o.Name, " ")
	w.operand(t.L[len(t.L)-1], oper.Right(o))
}

// left answers of at most which precedence the term is written on the operator's left.
func (w *writer) left(t api.Term, o api.Op) int {
	// An operator that lets so much stand on its right would be read as having this one's operation there.
	if inner, is := w.operator(t); is && oper.Right(inner) >= o.Prec {
		return 0
	}
	return oper.Left(o)
}

// operand writes a term that stands beside an operator, of at most that precedence.
func (w *writer) operand(t api.Term, most int) {
	isOperator := t.Kind == api.KindAtom && w.ops.Is(t.S)
	isBelow := t.Kind == api.KindInt && t.N < 0
	if isOperator || isBelow {
		w.between("(", ")", func() { w.term(t, api.MaxPrec) })
		return
	}
	w.term(t, most)
}

// compound writes a compound that is not written by an operator.
func (w *writer) compound(t api.Term) {
	switch {
	case isPair(t):
		w.between("[", "]", func() { w.list(t) })
	case w.ops != nil && t.S == "{}" && len(t.L) == 1:
		w.between("{", "}", func() { w.term(t.L[0], api.MaxPrec) })
	default:
		w.put(token.Quote(t.S))
		w.between("(", ")", func() { w.row(t.L) })
	}
}

// row writes terms, a comma between each two.
func (w *writer) row(l []api.Term) {
	ahead := ""
	for _, t := range l {
		w.put(ahead)
		w.term(t, api.ArgPrec)
		ahead = ","
	}
}

// list writes the items of a list, and its tail, if that is not the empty list.
func (w *writer) list(t api.Term) {
	ahead := ""
	for ; isPair(t); t = t.L[1] {
		w.put(ahead)
		w.term(t.L[0], api.ArgPrec)
		ahead = ","
	}
	if t.Kind != api.KindAtom || t.S != "[]" {
		w.put("|")
		w.term(t, api.ArgPrec)
	}
}

// isPair tells whether the term is a list with an item.
func isPair(t api.Term) bool {
	return t.Kind == api.KindComp && t.S == "." && len(t.L) == 2
}

// isMinusOfInteger tells whether the compound is a minus of an integer: by an operator it would be too much like an integer below 0.
func isMinusOfInteger(t api.Term) bool {
	return t.S == "-" && t.L[0].Kind == api.KindInt
}
