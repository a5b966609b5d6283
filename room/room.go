// Package room is layer 2: a stack of words with a limit.
package room

import "elenchus/api"

// Room is words, by places from 0 on, never more than its limit.
type Room struct {
	words []uint64
	limit int
	most  int
}

// New makes a room without words.
func New(limit int) (*Room, api.Errno) {
	if limit < 0 || limit > api.MaxRoom {
		return nil, api.ErrArg
	}
	return &Room{limit: limit}, api.OK
}

// Push lays a word above all others.
func (m *Room) Push(w uint64) api.Errno {
	if m == nil {
		return api.ErrClosed
	}
	if len(m.words) >= m.limit {
		return api.ErrFull
	}
	m.hold(append(m.words, w))
	return api.OK
}

// Pop takes the highest word away.
func (m *Room) Pop() (uint64, api.Errno) {
	if m == nil {
		return 0, api.ErrClosed
	}
	top := len(m.words) - 1
	if top < 0 {
		return 0, api.ErrNone
	}
	w := m.words[top]
	m.words = m.words[:top]
	return w, api.OK
}

// Get answers the word at place i.
func (m *Room) Get(i int) (uint64, api.Errno) {
	if m == nil {
		return 0, api.ErrClosed
	}
	if !m.has(i) {
		return 0, api.ErrNone
	}
	return m.words[i], api.OK
}

// Set puts w in the stead of the word at place i.
func (m *Room) Set(i int, w uint64) api.Errno {
	if m == nil {
		return api.ErrClosed
	}
	if !m.has(i) {
		return api.ErrNone
	}
	m.words[i] = w
	return api.OK
}

// Len answers how many words there are.
func (m *Room) Len() int {
	if m == nil {
		return 0
	}
	return len(m.words)
}

// Limit answers how many words there may be.
func (m *Room) Limit() int {
	if m == nil {
		return 0
	}
	return m.limit
}

// Cut leaves the n lowest words.
func (m *Room) Cut(n int) api.Errno {
	if m == nil {
		return api.ErrClosed
	}
	if n < 0 || n > len(m.words) {
		return api.ErrArg
	}
	m.words = m.words[:n]
	return api.OK
}

// Grow lays n words of 0 above all others.
func (m *Room) Grow(n int) api.Errno {
	if m == nil {
		return api.ErrClosed
	}
	if n < 0 {
		return api.ErrArg
	}
	if n > m.limit-len(m.words) {
		return api.ErrFull
	}
	// Words that are gone may still lie behind the end, so zeros are laid over them.
	m.hold(append(m.words, make([]uint64, n)...))
	return api.OK
}

// Words answers all words, from the lowest one on.
func (m *Room) Words() []uint64 {
	if m == nil {
		return nil
	}
	l := make([]uint64, len(m.words))
	copy(l, m.words)
	return l
}

// Keep takes away the words of which keep answers false, and answers how many they are. Nothing goes, if keep panics.
func (m *Room) Keep(keep func(i int, w uint64) bool) int {
	if m == nil {
		return 0
	}
	before := m.words
	kept, ok := sift(before, keep)
	if !ok {
		return 0
	}
	m.words = kept
	return len(before) - len(kept)
}

// Most answers how many words there were at most.
func (m *Room) Most() int {
	if m == nil {
		return 0
	}
	return m.most
}

// hold has the room hold these words, which are more than those that it held.
func (m *Room) hold(words []uint64) {
	m.words = words
	m.most = max(m.most, len(words))
}

// has tells whether there is a word at place i.
func (m *Room) has(i int) bool {
	return i >= 0 && i < len(m.words)
}

// sift answers the words of which keep answers true, in a list of their own, so that nothing is lost if keep panics; ok is false then.
func sift(words []uint64, keep func(i int, w uint64) bool) (kept []uint64, ok bool) {
	defer func() {
		if recover() != nil {
			kept, ok = nil, false
		}
	}()
	kept = make([]uint64, 0, len(words))
	for i, w := range words {
		if keep(i, w) {
			kept = append(kept, w)
		}
	}
	return kept, true
}
