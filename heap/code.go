package heap

import (
	"slices"

	"elenchus/api"
	"elenchus/cell"
	"elenchus/term"
)

// Encode answers the word of a term; of each variable's number vars tells the word, or is told it.
func (h *Heap) Encode(t api.Term, vars map[int]uint64) (uint64, api.Errno) {
	if h.isClosed() {
		return 0, api.ErrClosed
	}
	if e := term.Check(t); e != api.OK {
		return 0, e
	}
	// Which variables are new is asked ahead of all else: a word that is not right may become right, once cells are taken.
	missing := h.missing(t, vars)
	if !h.fits(t, len(missing)) {
		return 0, api.ErrFull
	}
	if vars == nil {
		vars = make(map[int]uint64)
	}
	for _, n := range missing {
		vars[n], _ = h.Var()
	}
	return h.encode(t, vars), api.OK
}

// Decode answers the terms of words, and the words of their variables, by the numbers that these have in the terms.
func (h *Heap) Decode(l ...uint64) ([]api.Term, []uint64, api.Errno) {
	if h.isClosed() {
		return nil, nil, api.ErrClosed
	}
	if slices.ContainsFunc(l, func(w uint64) bool { return h.deref(w) == 0 }) {
		return nil, nil, api.ErrArg
	}
	d := decoder{Heap: h}
	var terms []api.Term
	for _, w := range l {
		t, e := d.whole(w)
		if e != api.OK {
			return nil, nil, e
		}
		terms = append(terms, t)
	}
	return terms, d.words, api.OK
}

// missing answers the numbers of the term's variables of which vars does not tell a word that is right.
func (h *Heap) missing(t api.Term, vars map[int]uint64) []int {
	return slices.DeleteFunc(term.Vars(t), func(n int) bool { return h.deref(vars[n]) != 0 })
}

// encode answers the word of a term that there is room for, all variables of which have words.
func (h *Heap) encode(t api.Term, vars map[int]uint64) uint64 {
	var w uint64
	switch t.Kind {
	case api.KindVar:
		w = vars[t.N]
	case api.KindInt:
		w, _ = h.Int(t.N)
	case api.KindAtom:
		w, _ = h.Atom(t.S)
	case api.KindComp:
		w, _ = h.Struct(t.S, len(t.L))
		for i, arg := range t.L {
			h.set(cell.Number(w)+i+1, h.encode(arg, vars))
		}
	}
	return w
}

// decoder makes terms of words.
type decoder struct {
	*Heap
	numbers map[uint64]int // of each variable its number
	words   []uint64       // the variables, by their numbers
	left    int            // how many parts more the term may have
	deepest int            // how deep it is so far
	broken  bool           // whether there is a part that is not right
}

// whole answers the term of a word, if it may be.
func (d *decoder) whole(w uint64) (api.Term, api.Errno) {
	d.left, d.deepest = api.MaxNodes, 0
	t := d.part(w, 1)
	switch {
	case d.broken:
		return api.Term{}, api.ErrArg
	case d.left < 0:
		return api.Term{}, api.ErrMany
	case d.deepest > api.MaxDepth:
		return api.Term{}, api.ErrDepth
	}
	return t, api.OK
}

// part answers the term of a word that stands so deep, as long as there are parts left that it may have.
func (d *decoder) part(w uint64, depth int) api.Term {
	d.left--
	if d.left < 0 {
		return api.Term{}
	}
	d.deepest = max(d.deepest, depth)
	w = d.deref(w)
	d.broken = d.broken || w == 0
	k := d.key(w)
	switch k.Kind {
	case api.KeyInt:
		return term.Int(k.N)
	case api.KeyAtom:
		return term.Atom(k.S)
	case api.KeyComp:
		return api.Term{Kind: api.KindComp, S: k.S, L: d.args(w, k.N, depth)}
	}
	return term.Var(d.number(w))
}

// args answers the terms of a compound's arguments.
func (d *decoder) args(w uint64, arity, depth int) []api.Term {
	l := make([]api.Term, arity)
	for i := range l {
		l[i] = d.part(ref(cell.Number(w)+i+1), depth+1)
	}
	return l
}

// number answers the number of a variable; a new one has the next one.
func (d *decoder) number(w uint64) int {
	if n, is := d.numbers[w]; is {
		return n
	}
	if d.numbers == nil {
		d.numbers = make(map[uint64]int)
	}
	n := len(d.words)
	d.numbers[w] = n
	d.words = append(d.words, w)
	return n
}
