package heap

import (
	"slices"

	"elenchus/api"
)

// choice is what is known of the trail since a segment was opened.
type choice struct {
	mark int // how long it was then
	low  int // how long it was at least since then: what lies from there on was noted since
}

// Open begins a choice, and answers how long the trail is.
func (h *Heap) Open() (int, api.Errno) {
	if h.isClosed() {
		return 0, api.ErrClosed
	}
	if e := h.pool.Open(); e != api.OK {
		return 0, e
	}
	long := h.trail.Len()
	h.choices = append(h.choices, choice{mark: long, low: long})
	return long, api.OK
}

// Undo makes the cells unbound variables that were noted since the trail was so long.
func (h *Heap) Undo(mark int) api.Errno {
	if h.isClosed() {
		return api.ErrClosed
	}
	if mark < 0 || mark > h.trail.Len() {
		return api.ErrArg
	}
	h.undo(mark)
	return api.OK
}

// Back makes the cells unbound variables that were noted since the last segment was opened, and takes away all that it has.
func (h *Heap) Back() api.Errno {
	if h.isClosed() {
		return api.ErrClosed
	}
	low := 0
	if last := len(h.choices) - 1; last >= 0 {
		low = h.choices[last].low
	}
	h.undo(low)
	return h.pool.Back()
}

// Close makes the last segment a part of the one ahead of it.
func (h *Heap) Close() api.Errno {
	if h.isClosed() {
		return api.ErrClosed
	}
	if e := h.pool.Close(); e != api.OK {
		return e
	}
	h.choices = h.choices[:max(len(h.choices)-1, 0)]
	return api.OK
}

// Marks answers how long the trail was when each segment but the first one was opened.
func (h *Heap) Marks() []int {
	if h.isClosed() {
		return nil
	}
	var marks []int
	for _, c := range h.choices {
		marks = append(marks, c.mark)
	}
	return marks
}

// Forget takes the notes out of the trail of which keep answers false, and answers how many they are. All stays as it is, if keep panics.
func (h *Heap) Forget(keep func(i, at int) bool) int {
	if h.isClosed() {
		return 0
	}
	var gone []int
	n := h.trail.Keep(func(i int, w uint64) bool {
		stays := keep(i, int(w))
		if !stays {
			gone = append(gone, i)
		}
		return stays
	})
	if n == 0 {
		return 0
	}
	for i, c := range h.choices {
		h.choices[i] = choice{mark: c.mark - below(gone, c.mark), low: c.low - below(gone, c.low)}
	}
	return n
}

// isNoted tells whether a binding of that cell is to be noted: whether it lies ahead of the last segment.
func (h *Heap) isNoted(at int) bool {
	return h.pool.Segment(at) < len(h.choices)
}

// undo makes the cells unbound variables that were noted from mark on, the last one first.
func (h *Heap) undo(mark int) {
	for h.trail.Len() > mark {
		w, _ := h.trail.Pop()
		h.Loose(int(w))
	}
	for i, c := range slices.Backward(h.choices) {
		if c.low <= mark {
			return
		}
		h.choices[i].low = mark
	}
}

// below answers how many of these rising numbers are less than n.
func below(rising []int, n int) int {
	count, _ := slices.BinarySearch(rising, n)
	return count
}
