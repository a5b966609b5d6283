package heap

import (
	"elenchus/api"
	"elenchus/cell"
)

// Terms may be far deeper than calls within calls would do, and compounds may lie in themselves by Put: so what is still to be done is noted in lists, and what was come to in maps.

// Bind has the unbound variable w refer to x, unless x has it as a part.
func (h *Heap) Bind(w, x uint64) (bool, api.Errno) {
	if h.isClosed() {
		return false, api.ErrClosed
	}
	w, x = h.deref(w), h.deref(x)
	if !isVar(w) || x == 0 {
		return false, api.ErrArg
	}
	return h.bind(w, x)
}

// Reaches tells whether a variable or a compound is a part of another term.
func (h *Heap) Reaches(w, x uint64) bool {
	if h.isClosed() {
		return false
	}
	w = h.deref(w)
	if !isVar(w) && !cell.Is(w, api.TagStr) {
		return false
	}
	return h.reaches(w, x)
}

// Unify answers whether the terms were unified; what was bound stays bound, also if not.
func (h *Heap) Unify(a, b uint64) (bool, api.Errno) {
	if h.isClosed() {
		return false, api.ErrClosed
	}
	if h.deref(a) == 0 || h.deref(b) == 0 {
		return false, api.ErrArg
	}
	u := unifier{Heap: h}
	u.later(a, b)
	for len(u.rest) > 0 {
		last := len(u.rest) - 1
		next := u.rest[last]
		u.rest = u.rest[:last]
		if ok, e := u.hold(next[0], next[1]); !ok {
			return false, e
		}
	}
	return true, api.OK
}

// bind binds an unbound variable to what was gone through, unless that reaches it.
func (h *Heap) bind(w, x uint64) (bool, api.Errno) {
	if w == x {
		return true, api.OK
	}
	if h.reaches(w, x) {
		return false, api.OK
	}
	at := cell.Number(w)
	if h.isNoted(at) {
		if e := h.trail.Push(uint64(at)); e != api.OK {
			return false, e
		}
	}
	h.set(at, x)
	return true, api.OK
}

// reaches tells whether the term of x has w, which was gone through, as a part. Each compound is gone through once.
func (h *Heap) reaches(w, x uint64) bool {
	var through map[int]struct{}
	rest := []uint64{x}
	for len(rest) > 0 {
		last := len(rest) - 1
		part := h.deref(rest[last])
		rest = rest[:last]
		if part == w {
			return true
		}
		at, arity := h.compound(part)
		if _, was := through[at]; was || arity == 0 {
			continue
		}
		if through == nil {
			through = make(map[int]struct{})
		}
		through[at] = struct{}{}
		for i := range arity {
			rest = append(rest, ref(at+arity-i))
		}
	}
	return false
}

// unifier unifies two terms, binding variables.
type unifier struct {
	*Heap
	rest [][2]uint64         // what is to be held against each other, the next one last
	held map[[2]int]struct{} // which compounds, by their places, were held against each other
}

// later notes that the words are to be held against each other ahead of all that was noted before.
func (u *unifier) later(a, b uint64) {
	u.rest = append(u.rest, [2]uint64{a, b})
}

// hold tells whether the words are unified, as far as it is not their arguments that tell, which are noted.
func (u *unifier) hold(a, b uint64) (bool, api.Errno) {
	a, b = u.deref(a), u.deref(b)
	switch {
	case a == 0 || b == 0:
		return false, api.OK
	case a == b:
		return true, api.OK
	case isVar(a):
		return u.bind(a, b)
	case isVar(b):
		return u.bind(b, a)
	}
	first, arity := u.compound(a)
	second, _ := u.compound(b)
	if arity == 0 || u.key(a) != u.key(b) {
		return false, api.OK
	}
	if !u.again(first, second) {
		for i := range arity {
			u.later(ref(first+arity-i), ref(second+arity-i))
		}
	}
	return true, api.OK
}

// again tells whether these compounds were held against each other already, and notes that they are.
func (u *unifier) again(first, second int) bool {
	both := [2]int{first, second}
	if _, is := u.held[both]; is {
		return true
	}
	if u.held == nil {
		u.held = make(map[[2]int]struct{})
	}
	u.held[both] = struct{}{}
	return false
}
