package heap

import (
	"elenchus/api"
	"elenchus/cell"
)

// The pool is the caller's, too: a cell that something refers to may have been given back. So whoever goes through cells is told 0, which is no word, of what is not there.

// word answers the cell of a tag and a number that may be.
func word(tag, n int) uint64 {
	w, _ := cell.Make(tag, n)
	return w
}

// ref answers the reference to a cell.
func ref(at int) uint64 {
	return word(api.TagRef, at)
}

// taken tells whether there is such a cell, and whether it is taken.
func (h *Heap) taken(at int) bool {
	return at >= 0 && at < h.pool.Top() && !h.pool.Free(at)
}

// get answers the word of a cell, 0 if it is not taken.
func (h *Heap) get(at int) uint64 {
	if !h.taken(at) || at >= len(h.cells) {
		return 0
	}
	return h.cells[at]
}

// set has a word stand in a cell that is taken.
func (h *Heap) set(at int, w uint64) {
	if missing := h.pool.Top() - len(h.cells); missing > 0 {
		h.cells = append(h.cells, make([]uint64, missing)...)
	}
	h.cells[at] = w
}

// take takes n cells, each an unbound variable, and answers the first one's place.
func (h *Heap) take(n int) (int, api.Errno) {
	at, e := h.pool.Take(n)
	if e != api.OK {
		return 0, e
	}
	for i := at; i < at+n; i++ {
		h.set(i, ref(i))
	}
	return at, api.OK
}

// deref goes from a word on, from cell to cell, up to an unbound variable, or what is no reference; 0, if the word is not right, or one on the way.
func (h *Heap) deref(w uint64) uint64 {
	for cell.Is(w, api.TagRef) {
		next := h.get(cell.Number(w))
		if next == w {
			return w
		}
		w = next
	}
	if !h.named(w) {
		return 0
	}
	return w
}

// named tells whether a word, which is no reference, is right.
func (h *Heap) named(w uint64) bool {
	n := cell.Number(w)
	switch cell.Tag(w) {
	case api.TagAtom:
		_, e := h.atoms.Name(n)
		return e == api.OK
	case api.TagInt:
		return true
	case api.TagStr:
		_, _, is := h.functor(n)
		return is
	}
	return false
}

// functor answers the functor that stands in a cell, if one does.
func (h *Heap) functor(at int) (string, int, bool) {
	f := h.get(at)
	if !cell.Is(f, api.TagFun) {
		return "", 0, false
	}
	name, arity, e := h.functors.Get(cell.Number(f))
	return name, arity, e == api.OK
}

// isVar tells whether a word that was gone through is an unbound variable.
func isVar(w uint64) bool {
	return cell.Is(w, api.TagRef)
}

// compound answers the place of a compound that was gone through, and how many arguments it has; none of what is no compound.
func (h *Heap) compound(w uint64) (int, int) {
	if !cell.Is(w, api.TagStr) {
		return 0, 0
	}
	at := cell.Number(w)
	_, arity, _ := h.functor(at)
	return at, arity
}

// arg answers the place of an argument's cell, if there is such an argument.
func (h *Heap) arg(w uint64, i int) (int, bool) {
	at, arity := h.compound(h.deref(w))
	return at + i, i >= 1 && i <= arity
}

// key answers the key of a word that was gone through.
func (h *Heap) key(w uint64) api.Key {
	n := cell.Number(w)
	switch cell.Tag(w) {
	case api.TagAtom:
		name, _ := h.atoms.Name(n)
		return api.Key{Kind: api.KeyAtom, S: name}
	case api.TagInt:
		return api.Key{Kind: api.KeyInt, N: n}
	case api.TagStr:
		name, arity, _ := h.functor(n)
		return api.Key{Kind: api.KeyComp, S: name, N: arity}
	}
	return api.Key{Kind: api.KeyAny}
}
