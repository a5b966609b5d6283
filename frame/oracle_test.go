package frame_test

import (
	"slices"
	"testing"

	"elenchus/api"
	"elenchus/frame"
)

// A stack again, by other means: environments that know their previous ones, and that nothing is ever laid over.

type env struct {
	base     int
	slots    []uint64
	cont     api.Addr
	previous *env
}

type choice struct {
	api.Choice
	env *env
}

type stack struct {
	words   int
	limit   int
	env     *env
	choices []*choice
}

// baseOf answers the environment's base, if it is one.
func baseOf(e *env) int {
	if e == nil {
		return -1
	}
	return e.base
}

// floor is the last choice's top.
func (s *stack) floor() int {
	if len(s.choices) == 0 {
		return 0
	}
	return s.choices[len(s.choices)-1].Top
}

func (s *stack) top() int {
	if s.env == nil {
		return s.floor()
	}
	return max(s.floor(), s.env.base+4+len(s.env.slots))
}

func (s *stack) alloc(slots int, cont api.Addr) api.Errno {
	if slots < 0 || slots > 64 {
		return api.ErrArg
	}
	if s.top()+4+slots > s.words {
		return api.ErrFull
	}
	s.env = &env{base: s.top(), slots: make([]uint64, slots), cont: cont, previous: s.env}
	return api.OK
}

func (s *stack) dealloc() (api.Addr, api.Errno) {
	if s.env == nil {
		return api.Addr{}, api.ErrNone
	}
	cont := s.env.cont
	s.env = s.env.previous
	return cont, api.OK
}

func (s *stack) set(i int, w uint64) api.Errno {
	if s.env == nil || i < 1 || i > len(s.env.slots) {
		return api.ErrNone
	}
	s.env.slots[i-1] = w
	return api.OK
}

func (s *stack) trim(n int) bool {
	if s.env == nil || s.env.base < s.floor() || n < 0 || n > len(s.env.slots) {
		return false
	}
	s.env.slots = s.env.slots[:n]
	return true
}

func (s *stack) push(c api.Choice) api.Errno {
	if len(s.choices) == s.limit {
		return api.ErrFull
	}
	c.Args = slices.Clone(c.Args)
	c.Env, c.Top = baseOf(s.env), s.top()
	s.choices = append(s.choices, &choice{Choice: c, env: s.env})
	return api.OK
}

// last does something with the last choice, if there is one.
func (s *stack) last(do func(c *choice)) api.Errno {
	if len(s.choices) == 0 {
		return api.ErrNone
	}
	do(s.choices[len(s.choices)-1])
	return api.OK
}

// all answers all environments, by their bases.
func (s *stack) all() map[int]*env {
	all := map[int]*env{}
	from := []*env{s.env}
	for _, c := range s.choices {
		from = append(from, c.env)
	}
	for _, e := range from {
		for ; e != nil; e = e.previous {
			all[e.base] = e
		}
	}
	return all
}

func (s *stack) change(change func(w uint64) uint64) {
	for _, e := range s.all() {
		for j, w := range e.slots {
			e.slots[j] = change(w)
		}
	}
	for _, c := range s.choices {
		for j, w := range c.Args {
			c.Args[j] = change(w)
		}
	}
}

// chain answers the environment, and its previous ones.
func chain(e *env) []api.Frame {
	var l []api.Frame
	for ; e != nil; e = e.previous {
		l = append(l, envOf(e.base, e.cont, e.slots...))
	}
	return l
}

// hold holds a stack against what it is meant to be.
func (s *stack) hold(t *testing.T, got *frame.Stack) {
	t.Helper()
	if got.Env() != baseOf(s.env) || s.env == nil && got.Slots() != 0 || s.env != nil && got.Slots() != len(s.env.slots) || got.Depth() != len(s.choices) {
		t.Fatal("base", got.Env(), baseOf(s.env), "slots", got.Slots(), "depth", got.Depth(), len(s.choices))
	}
	for j := 1; j <= got.Slots(); j++ {
		if w, e := got.Get(j); w != s.env.slots[j-1] || e != api.OK {
			t.Fatal("slot", j, w, e, s.env.slots)
		}
	}
	for j, c := range s.choices {
		if d, is := got.Choice(j); !is || !sameChoice(d, c.Choice) {
			t.Fatal("choice", j, d, is, c.Choice)
		}
	}
	all := s.all()
	for base := -2; base <= s.words; base++ {
		if l := got.Chain(base); !slices.EqualFunc(l, chain(all[base]), sameFrame) {
			t.Fatal("chain", base, l, chain(all[base]))
		}
	}
}

// both does one of a few things to both, and tells whether they answered the same.
func (s *stack) both(got *frame.Stack, what, n int, mark uint64) bool {
	at := addr(int(mark), n)
	switch what {
	case 0:
		return s.alloc(n, at) == got.Alloc(n, at)
	case 1:
		x, e := s.dealloc()
		y, f := got.Dealloc()
		return x == y && e == f
	case 2:
		return s.set(n, mark) == got.Set(n, mark)
	case 3:
		return s.trim(n) == got.Trim(n)
	case 4:
		c := api.Choice{Kind: n, Args: []uint64{mark, mark + 1}[:(n+3)%3], Cont: at, Next: int(mark), Generation: n, Finds: n}
		return s.push(c) == got.Push(c)
	case 5:
		return s.last(func(c *choice) { c.Next = n }) == got.Turn(n)
	case 6:
		return s.last(func(*choice) { s.choices = s.choices[:len(s.choices)-1] }) == got.Drop()
	case 7:
		return s.last(func(c *choice) { s.env = c.env }) == got.Restore()
	}
	double := func(w uint64) uint64 { return 2*w + 1 }
	s.change(double)
	got.Change(double)
	return true
}

// P22.1 to P22.4: all that can be done in a few steps.
func TestAllShort(t *testing.T) {
	steps := [][2]int{{0, 0}, {0, 2}, {1, 0}, {2, 1}, {3, 1}, {4, 2}, {6, 0}, {7, 0}, {8, 0}}
	const long = 5
	var row [long]int
	for {
		s := &stack{words: 14, limit: 2}
		got := made(t, s.words, s.limit)
		for j, k := range row {
			if !s.both(got, steps[k][0], steps[k][1], uint64(100+j)) {
				t.Fatal(row, "step", j)
			}
		}
		s.hold(t, got)
		if t.Failed() {
			t.Fatal(row)
		}
		at := long - 1
		for at >= 0 && row[at] == len(steps)-1 {
			row[at] = 0
			at--
		}
		if at < 0 {
			return
		}
		row[at]++
	}
}

// source is a row of numbers that look random.
type source uint64

func (s *source) next(n int) int {
	*s = *s*6364136223846793005 + 1442695040888963407
	return int(uint64(*s) >> 33 % uint64(n))
}

// P22.1 to P22.4: whatever is done, step by step.
func TestLikeStack(t *testing.T) {
	for seed := range 60 {
		r := source(seed)
		s := &stack{words: r.next(90), limit: r.next(6)}
		got := made(t, s.words, s.limit)
		for step := range 300 {
			what := []int{0, 0, 0, 1, 1, 2, 2, 2, 3, 4, 4, 5, 6, 7, 8}[r.next(15)]
			if n := r.next(6) - 1; !s.both(got, what, n, uint64(step)) {
				t.Fatal(seed, step, what, n)
			}
			s.hold(t, got)
		}
	}
}

// P22.4: what a choice keeps is as it was, whatever was made, and left, in between.
func TestKept(t *testing.T) {
	for seed := range 200 {
		r := source(seed)
		s := made(t, 400, 8)
		var kept [][]api.Frame
		for step := range 200 {
			switch r.next(6) {
			case 0, 1:
				if s.Alloc(r.next(4), addr(step, step)) != api.OK {
					continue
				}
				for j := range s.Slots() {
					does(t, s.Set(j+1, uint64(1000*step+j)))
				}
			case 2:
				s.Dealloc()
			case 3:
				s.Trim(r.next(4))
			case 4:
				if s.Push(api.Choice{}) == api.OK {
					kept = append(kept, s.Chain(s.Env()))
				}
			case 5:
				if len(kept) == 0 {
					continue
				}
				does(t, s.Restore())
				last := len(kept) - 1
				chained(t, s, s.Env(), kept[last]...)
				if r.next(2) == 0 {
					does(t, s.Drop())
					kept = kept[:last]
				}
			}
			for j, l := range kept {
				c, _ := s.Choice(j)
				chained(t, s, c.Env, l...)
			}
		}
	}
}
