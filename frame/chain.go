package frame

import (
	"slices"

	"elenchus/api"
)

// Chain answers the environment of that base, and its previous ones.
func (s *Stack) Chain(base int) []api.Frame {
	if s.isClosed() || !s.has(base) {
		return nil
	}
	var all []api.Frame
	for ; base != none; base = s.previous(base) {
		all = append(all, s.frame(base))
	}
	return all
}

// Change puts in the place of each slot of all environments, and of each argument of a choice, what change answers of it. All stays as it is, if change panics.
func (s *Stack) Change(change func(w uint64) uint64) {
	if s.isClosed() {
		return
	}
	var words []uint64
	s.each(func(w uint64) uint64 {
		words = append(words, w)
		return w
	})
	if !ask(words, change) {
		return
	}
	// Whoever was asked may have called the stack, though it may not: there may be more slots by now.
	s.each(func(w uint64) uint64 {
		if len(words) > 0 {
			w, words = words[0], words[1:]
		}
		return w
	})
}

// ask puts in the place of each word what change answers of it, and tells whether it did not panic.
func ask(words []uint64, change func(w uint64) uint64) (ok bool) {
	defer func() {
		if recover() != nil {
			ok = false
		}
	}()
	for i, w := range words {
		words[i] = change(w)
	}
	return true
}

// each puts in the place of each slot, and each argument, what a function that does not call the stack answers of it.
func (s *Stack) each(change func(w uint64) uint64) {
	for _, base := range s.bases() {
		for i := range s.slots(base) {
			at := s.place(base, i+1)
			w, _ := s.words.Get(at)
			s.words.Set(at, change(w))
		}
	}
	for _, c := range s.choices {
		for i, w := range c.Args {
			c.Args[i] = change(w)
		}
	}
}

// has tells whether that is the base of an environment that is current, a choice's, or a previous one of these.
func (s *Stack) has(base int) bool {
	if base == none {
		return false
	}
	isChoice := func(c api.Choice) bool { return c.Env == base }
	return base == s.env || slices.ContainsFunc(s.choices, isChoice) || slices.Contains(s.bases(), base)
}

// bases answers the bases of the current environment, the choices' ones, and all previous ones of these, each once.
func (s *Stack) bases() []int {
	seen := make(map[int]struct{})
	var all []int
	follow := func(base int) {
		for base != none {
			if _, is := seen[base]; is {
				return
			}
			seen[base] = struct{}{}
			all = append(all, base)
			base = s.previous(base)
		}
	}
	follow(s.env)
	for _, c := range s.choices {
		follow(c.Env)
	}
	return all
}

// frame answers what an environment is.
func (s *Stack) frame(base int) api.Frame {
	f := api.Frame{Base: base, Cont: s.cont(base)}
	for i := range s.slots(base) {
		w, _ := s.words.Get(s.place(base, i+1))
		f.Slots = append(f.Slots, w)
	}
	return f
}
