package heap

import (
	"slices"

	"elenchus/api"
)

// What cannot be made as a whole is not begun: names could not be taken out again, and the pool would not be as it was.

// pair is a functor's name, and how many arguments it has.
type pair struct {
	name  string
	arity int
}

// need is what must be had for terms to stand on the heap.
type need struct {
	*Heap
	takes       []int               // rows of cells, as long as these, in order
	newNames    map[string]struct{} // those that are not there yet
	newFunctors map[pair]struct{}   // likewise
}

// fits tells whether there is room for a term that may be, and for so many variables.
func (h *Heap) fits(t api.Term, variables int) bool {
	n := need{Heap: h, takes: slices.Repeat([]int{1}, variables)}
	n.count(t)
	return len(n.newNames) <= api.MaxAtoms-h.atoms.Len() && len(n.newFunctors) <= api.MaxFuns-h.functors.Len() && h.holds(n.takes)
}

// count notes what a term needs, but for its variables.
func (n *need) count(t api.Term) {
	switch t.Kind {
	case api.KindAtom:
		n.name(t.S)
	case api.KindComp:
		n.name(t.S)
		n.functor(t.S, len(t.L))
		n.takes = append(n.takes, len(t.L)+1)
	}
	for _, arg := range t.L {
		n.count(arg)
	}
}

// name notes a name, if it is not there.
func (n *need) name(name string) {
	if _, is := n.atoms.Find(name); is {
		return
	}
	if n.newNames == nil {
		n.newNames = make(map[string]struct{})
	}
	n.newNames[name] = struct{}{}
}

// functor notes a functor, if it is not there.
func (n *need) functor(name string, arity int) {
	if _, is := n.functors.Find(name, arity); is {
		return
	}
	if n.newFunctors == nil {
		n.newFunctors = make(map[pair]struct{})
	}
	n.newFunctors[pair{name: name, arity: arity}] = struct{}{}
}

// isNew tells whether the functor may be, and is not there.
func (h *Heap) isNew(name string, arity int) bool {
	if arity < 1 || arity > api.MaxArity || len(name) > api.MaxName {
		return false
	}
	_, is := h.functors.Find(name, arity)
	return !is
}

// holds tells whether rows of cells, as long as these, can be taken in this order; none is longer than a compound's.
func (h *Heap) holds(takes []int) bool {
	left := h.pool.Limit() - h.pool.Top()
	all := 0
	for _, n := range takes {
		all += n
	}
	if all <= left {
		return true
	}
	runs := h.pool.Runs(len(h.pool.Starts()) - 1)
	var first [api.MaxArity + 2]int // of each length the first run that may be as long: none grows
	for _, n := range takes {
		for first[n] < len(runs) && runs[first[n]].Len < n {
			first[n]++
		}
		if first[n] < len(runs) {
			runs[first[n]].Len -= n
		} else {
			left -= n
		}
	}
	return left >= 0
}
