package frame_test

import (
	"reflect"
	"slices"
	"testing"

	"elenchus/api"
	"elenchus/frame"
)

const (
	most = 1<<63 - 1
	low  = -1 << 63
)

// made answers a stack of those limits.
func made(t *testing.T, words, choices int) *frame.Stack {
	t.Helper()
	s, e := frame.New(words, choices)
	if s == nil || e != api.OK {
		t.Fatal(words, choices, s, e)
	}
	return s
}

// addr answers a place in code.
func addr(clause, at int) api.Addr { return api.Addr{Clause: clause, At: at} }

// does tests that there was no error.
func does(t *testing.T, e api.Errno) {
	t.Helper()
	if e != api.OK {
		t.Fatal("refused:", e)
	}
}

// alloc makes an environment, which is to have that base, and sets its slots.
func alloc(t *testing.T, s *frame.Stack, cont api.Addr, base int, slots ...uint64) {
	t.Helper()
	does(t, s.Alloc(len(slots), cont))
	if s.Env() != base {
		t.Fatal("base", s.Env(), "not", base)
	}
	for j, w := range slots {
		if was, e := s.Get(j + 1); was != 0 || e != api.OK {
			t.Error("a new slot has", was, e)
		}
		does(t, s.Set(j+1, w))
	}
	has(t, s, base, slots...)
}

// has checks the current environment.
func has(t *testing.T, s *frame.Stack, base int, slots ...uint64) {
	t.Helper()
	if s.Env() != base || s.Slots() != len(slots) {
		t.Error("base", s.Env(), "not", base, "or", s.Slots(), "slots, not", len(slots))
	}
	for j, w := range slots {
		if got, e := s.Get(j + 1); got != w || e != api.OK {
			t.Error("slot", j+1, "is", got, e, "not", w)
		}
	}
	for _, j := range []int{low, -1, 0, len(slots) + 1, len(slots) + 2, api.MaxSlots + 1, most} {
		if got, e := s.Get(j); got != 0 || e != api.ErrNone {
			t.Error("slot", j, "is", got, e)
		}
		if e := s.Set(j, 77); e != api.ErrNone {
			t.Error("slot", j, "is set:", e)
		}
	}
}

// leaves leaves the current environment.
func leaves(t *testing.T, s *frame.Stack, cont api.Addr) {
	t.Helper()
	if got, e := s.Dealloc(); got != cont || e != api.OK {
		t.Error("it goes on at", got, e, "not", cont)
	}
}

// envOf answers an environment as Chain tells it.
func envOf(base int, cont api.Addr, slots ...uint64) api.Frame {
	return api.Frame{Base: base, Slots: slots, Cont: cont}
}

// chained checks what Chain tells.
func chained(t *testing.T, s *frame.Stack, base int, want ...api.Frame) {
	t.Helper()
	got := s.Chain(base)
	if !slices.EqualFunc(got, want, sameFrame) {
		t.Error("from", base, "on:", got, "not", want)
	}
}

func sameFrame(f, g api.Frame) bool {
	return f.Base == g.Base && f.Cont == g.Cont && slices.Equal(f.Slots, g.Slots)
}

// choices checks which choices there are.
func choices(t *testing.T, s *frame.Stack, want ...api.Choice) {
	t.Helper()
	if s.Depth() != len(want) {
		t.Error(s.Depth(), "choices, not", len(want))
	}
	for j, c := range want {
		if got, is := s.Choice(j); !is || !sameChoice(got, c) {
			t.Error("choice", j, "is", got, is, "not", c)
		}
	}
	for _, j := range []int{low, -1, len(want), len(want) + 1, most} {
		if got, is := s.Choice(j); is || !reflect.DeepEqual(got, api.Choice{}) {
			t.Error("choice", j, "is", got, is)
		}
	}
	got, is := s.Last()
	if is != (len(want) > 0) || !is && !reflect.DeepEqual(got, api.Choice{}) || is && !sameChoice(got, want[len(want)-1]) {
		t.Error("the last one is", got, is)
	}
}

func sameChoice(c, d api.Choice) bool {
	args := slices.Equal(c.Args, d.Args)
	c.Args, d.Args = nil, nil
	return args && reflect.DeepEqual(c, d)
}

// P22.1: limits.
func TestNew(t *testing.T) {
	for _, words := range []int{low, -1, 0, 1, api.MaxRoom, api.MaxRoom + 1, most} {
		for _, n := range []int{low, -1, 0, 1, api.MaxSegs - 1, api.MaxSegs, most} {
			s, e := frame.New(words, n)
			if words < 0 || words > api.MaxRoom || n < 0 || n > api.MaxSegs-1 {
				if s != nil || e != api.ErrArg {
					t.Error(words, n, s, e)
				}
				continue
			}
			if s == nil || e != api.OK {
				t.Fatal(words, n, s, e)
			}
			empty(t, s)
		}
	}
}

// empty tests that a stack has no environment and no choice.
func empty(t *testing.T, s *frame.Stack) {
	t.Helper()
	has(t, s, -1)
	choices(t, s)
	if cont, e := s.Dealloc(); cont != addr(0, 0) || e != api.ErrNone {
		t.Error("left", cont, e)
	}
	if s.Turn(3) != api.ErrNone || s.Drop() != api.ErrNone || s.Restore() != api.ErrNone {
		t.Error("there is a choice")
	}
	for _, n := range []int{low, -1, 0, 1, most} {
		if s.Trim(n) {
			t.Error("trimmed to", n)
		}
		chained(t, s, n)
	}
	s.Change(func(w uint64) uint64 {
		t.Error("asked of", w)
		return w
	})
}

// P22.1: environments, one behind the other, and left again.
func TestEnvironments(t *testing.T) {
	s := made(t, 100, 5)
	alloc(t, s, addr(1, 2), 0, 10, 11)
	alloc(t, s, addr(-7, 0), 6)
	alloc(t, s, addr(most, low), 10, 1<<64-1)
	leaves(t, s, addr(most, low))
	has(t, s, 6)
	leaves(t, s, addr(-7, 0))
	has(t, s, 0, 10, 11)
	// What lay there is gone.
	alloc(t, s, addr(low, most), 6, 12, 13, 14)
	does(t, s.Set(2, 15))
	has(t, s, 6, 12, 15, 14)
	leaves(t, s, addr(low, most))
	leaves(t, s, addr(1, 2))
	empty(t, s)
	alloc(t, s, addr(0, 0), 0, 16)
}

// P22.1: how many slots there may be.
func TestAllocSlots(t *testing.T) {
	s := made(t, 200, 0)
	alloc(t, s, addr(1, 1), 0, 5)
	for _, n := range []int{low, -1, api.MaxSlots + 1, 1 << 32, most} {
		if e := s.Alloc(n, addr(2, 2)); e != api.ErrArg {
			t.Error(n, e)
		}
		has(t, s, 0, 5)
	}
	does(t, s.Alloc(api.MaxSlots, addr(3, 3)))
	has(t, s, 5, make([]uint64, api.MaxSlots)...)
	does(t, s.Set(api.MaxSlots, 9))
	if w, e := s.Get(api.MaxSlots); w != 9 || e != api.OK {
		t.Error(w, e)
	}
	does(t, s.Alloc(0, addr(4, 4)))
	has(t, s, 5+4+api.MaxSlots)
}

// P22.1: ErrFull, if it does not fit in; what may not be is told ahead.
func TestAllocFull(t *testing.T) {
	for limit, slots := range map[int]int{0: -1, 3: -1, 4: 0, 5: 1, 67: 63, 68: 64} {
		s := made(t, limit, 1)
		if e := s.Alloc(slots+1, addr(1, 1)); slots < api.MaxSlots && e != api.ErrFull || slots == api.MaxSlots && e != api.ErrArg {
			t.Error(limit, slots+1, e)
		}
		if e := s.Alloc(-1, addr(1, 1)); e != api.ErrArg {
			t.Error(e)
		}
		empty(t, s)
		if slots >= 0 {
			does(t, s.Alloc(slots, addr(1, 1)))
			has(t, s, 0, make([]uint64, slots)...)
		}
	}
	s := made(t, 20, 1)
	alloc(t, s, addr(1, 1), 0, 1, 2)
	alloc(t, s, addr(2, 2), 6, 3, 4)
	for slots, want := range map[int]api.Errno{5: api.ErrFull, 64: api.ErrFull, 65: api.ErrArg, -1: api.ErrArg} {
		if e := s.Alloc(slots, addr(3, 3)); e != want {
			t.Error(slots, e)
		}
		has(t, s, 6, 3, 4)
		chained(t, s, 6, envOf(6, addr(2, 2), 3, 4), envOf(0, addr(1, 1), 1, 2))
	}
	does(t, s.Push(api.Choice{}))
	leaves(t, s, addr(2, 2))
	// The top is the choice's.
	if e := s.Alloc(5, addr(3, 3)); e != api.ErrFull {
		t.Error(e)
	}
	chained(t, s, 6, envOf(6, addr(2, 2), 3, 4), envOf(0, addr(1, 1), 1, 2))
	has(t, s, 0, 1, 2)
	alloc(t, s, addr(4, 4), 12, 5, 6, 7, 8)
	chained(t, s, 12, envOf(12, addr(4, 4), 5, 6, 7, 8), envOf(0, addr(1, 1), 1, 2))
}

// P22.1: the greatest stack, filled to its last word.
func TestGreatest(t *testing.T) {
	s := made(t, api.MaxRoom, api.MaxSegs-1)
	n := 0
	for s.Alloc(0, addr(n, -n)) == api.OK {
		n++
		if n%64 == 0 && s.Depth() < api.MaxSegs-1 {
			does(t, s.Push(api.Choice{Next: n}))
		}
	}
	if n != api.MaxRoom/4 || s.Depth() != api.MaxSegs-1 {
		t.Error(n, s.Depth())
	}
	if s.Alloc(0, addr(0, 0)) != api.ErrFull || s.Push(api.Choice{}) != api.ErrFull {
		t.Error("not full")
	}
	for j := range s.Depth() {
		if c, _ := s.Choice(j); c.Next != 64*(j+1) || c.Top != 4*c.Next || c.Env != c.Top-4 {
			t.Fatal(j, c)
		}
	}
	all := s.Chain(s.Env())
	if len(all) != n {
		t.Error(len(all))
	}
	for j, f := range all {
		if !sameFrame(f, envOf(4*(n-1-j), addr(n-1-j, j+1-n))) {
			t.Fatal(j, f)
		}
	}
	for n > 0 {
		n--
		leaves(t, s, addr(n, -n))
	}
	if _, e := s.Dealloc(); e != api.ErrNone {
		t.Error(e)
	}
}

// P22.1: Trim, of an environment that no choice keeps.
func TestTrim(t *testing.T) {
	s := made(t, 100, 5)
	alloc(t, s, addr(1, 1), 0, 1, 2, 3)
	for _, n := range []int{low, -1, 4, 5, api.MaxSlots, most} {
		if s.Trim(n) {
			t.Error("trimmed to", n)
		}
	}
	has(t, s, 0, 1, 2, 3)
	if !s.Trim(3) {
		t.Error("not trimmed to as many as it has")
	}
	has(t, s, 0, 1, 2, 3)
	if !s.Trim(1) || s.Trim(2) {
		t.Error("trimmed to one")
	}
	has(t, s, 0, 1)
	chained(t, s, 0, envOf(0, addr(1, 1), 1))
	alloc(t, s, addr(2, 2), 5, 4)
	if !s.Trim(0) {
		t.Error("not trimmed to none")
	}
	has(t, s, 5)
	alloc(t, s, addr(3, 3), 9, 5, 6)
	leaves(t, s, addr(3, 3))
	leaves(t, s, addr(2, 2))
	has(t, s, 0, 1)
	if !s.Trim(0) || s.Trim(1) || !s.Trim(0) {
		t.Error("trimmed")
	}
	leaves(t, s, addr(1, 1))
	if s.Trim(0) {
		t.Error("trimmed without an environment")
	}
}

// P22.1: what a choice keeps is not trimmed.
func TestTrimKept(t *testing.T) {
	s := made(t, 100, 5)
	does(t, s.Push(api.Choice{}))
	alloc(t, s, addr(1, 1), 0, 1, 2, 3)
	if !s.Trim(2) {
		t.Error("no choice keeps it: its row begins at the top, not below")
	}
	does(t, s.Push(api.Choice{}))
	if s.Trim(1) || s.Trim(2) || s.Trim(0) {
		t.Error("it is kept")
	}
	alloc(t, s, addr(2, 2), 6, 4, 5)
	if !s.Trim(1) {
		t.Error("the choice is older")
	}
	leaves(t, s, addr(2, 2))
	if s.Trim(1) {
		t.Error("it is kept")
	}
	does(t, s.Drop())
	if !s.Trim(1) {
		t.Error("it is kept no more")
	}
	has(t, s, 0, 1)
}

// P22.2: the chapter's example.
func TestExample(t *testing.T) {
	s := made(t, 100, 5)
	alloc(t, s, addr(1, 2), 0, 10, 11)
	does(t, s.Push(api.Choice{}))
	leaves(t, s, addr(1, 2))
	alloc(t, s, addr(3, 4), 6)
	chained(t, s, 6, envOf(6, addr(3, 4)))
	chained(t, s, 0, envOf(0, addr(1, 2), 10, 11))
}

// full is a choice with all fields set.
func full(args ...uint64) api.Choice {
	return api.Choice{Kind: api.ChoiceCatch, Args: args, Cont: addr(3, -4), Generation: 5, Next: 6, Finds: 7, Env: 8, Top: 9}
}

// known answers the choice as it knows its environment and its top.
func known(c api.Choice, env, top int) api.Choice {
	c.Env, c.Top = env, top
	return c
}

// P22.2: choices.
func TestChoices(t *testing.T) {
	s := made(t, 100, 3)
	first, second := full(1, 2, 3), full()
	does(t, s.Push(first))
	choices(t, s, known(first, -1, 0))
	alloc(t, s, addr(1, 1), 0, 20)
	does(t, s.Push(second))
	choices(t, s, known(first, -1, 0), known(second, 0, 5))
	leaves(t, s, addr(1, 1))
	third := api.Choice{Kind: -5, Next: most, Generation: low, Finds: -1}
	does(t, s.Push(third))
	choices(t, s, known(first, -1, 0), known(second, 0, 5), known(third, -1, 5))
	if e := s.Push(api.Choice{}); e != api.ErrFull {
		t.Error(e)
	}
	does(t, s.Turn(-8))
	third.Next = -8
	choices(t, s, known(first, -1, 0), known(second, 0, 5), known(third, -1, 5))
	does(t, s.Drop())
	does(t, s.Turn(most))
	second.Next = most
	choices(t, s, known(first, -1, 0), known(second, 0, 5))
	has(t, s, -1)
	does(t, s.Restore())
	has(t, s, 0, 20)
	choices(t, s, known(first, -1, 0), known(second, 0, 5))
	does(t, s.Drop())
	has(t, s, 0, 20)
	does(t, s.Restore())
	has(t, s, -1)
	does(t, s.Drop())
	empty(t, s)
}

// P22.2: limits of choices.
func TestChoicesFull(t *testing.T) {
	for _, limit := range []int{0, 1, 2, api.MaxSegs - 1} {
		s := made(t, 0, limit)
		for j := range limit {
			does(t, s.Push(api.Choice{Next: j}))
		}
		for range 2 {
			if e := s.Push(api.Choice{}); e != api.ErrFull || s.Depth() != limit {
				t.Error(limit, e, s.Depth())
			}
		}
		for j := limit - 1; j >= 0; j-- {
			if c, is := s.Last(); !is || c.Next != j {
				t.Error(c, is)
			}
			does(t, s.Drop())
		}
		empty(t, s)
	}
}

// P22.1, P22.2: the top, without a choice, without an environment, and with either one greater.
func TestTop(t *testing.T) {
	s := made(t, 100, 9)
	top := func(want int) {
		t.Helper()
		does(t, s.Push(api.Choice{}))
		if c, _ := s.Last(); c.Top != want {
			t.Error("top", c.Top, "not", want)
		}
		does(t, s.Drop())
	}
	top(0)
	alloc(t, s, addr(1, 1), 0, 1, 2)
	top(6)
	alloc(t, s, addr(2, 2), 6)
	top(10)
	does(t, s.Push(api.Choice{}))
	leaves(t, s, addr(2, 2))
	top(10)
	alloc(t, s, addr(3, 3), 10, 3)
	top(15)
	does(t, s.Restore())
	has(t, s, 6)
	top(10)
	does(t, s.Drop())
	leaves(t, s, addr(2, 2))
	top(6)
	if !s.Trim(1) {
		t.Error("not trimmed")
	}
	top(5)
	leaves(t, s, addr(1, 1))
	top(0)
}

// P22.3: the environments of the current one, of choices, and of previous ones; nothing of others.
func TestChain(t *testing.T) {
	s := made(t, 100, 9)
	alloc(t, s, addr(1, 1), 0, 1)
	alloc(t, s, addr(2, 2), 5, 2, 3)
	does(t, s.Push(api.Choice{}))
	leaves(t, s, addr(2, 2))
	alloc(t, s, addr(3, 3), 11, 4)
	does(t, s.Push(api.Choice{}))
	leaves(t, s, addr(3, 3))
	leaves(t, s, addr(1, 1))
	alloc(t, s, addr(4, 4), 16)
	one, two := envOf(0, addr(1, 1), 1), envOf(5, addr(2, 2), 2, 3)
	three, four := envOf(11, addr(3, 3), 4), envOf(16, addr(4, 4))
	chained(t, s, 16, four)
	chained(t, s, 11, three, one)
	chained(t, s, 5, two, one)
	chained(t, s, 0, one)
	for base := -3; base < 110; base++ {
		if !slices.Contains([]int{0, 5, 11, 16}, base) {
			chained(t, s, base)
		}
	}
	chained(t, s, low)
	chained(t, s, most)
	does(t, s.Drop())
	chained(t, s, 11)
	chained(t, s, 5, two, one)
	leaves(t, s, addr(4, 4))
	chained(t, s, 16)
	chained(t, s, 5, two, one)
	chained(t, s, 0, one)
	does(t, s.Drop())
	for base := -3; base < 110; base++ {
		chained(t, s, base)
	}
}

// P22.3: all slots, and all arguments, each changed by the same function.
func TestChange(t *testing.T) {
	s := made(t, 100, 9)
	alloc(t, s, addr(1, 1), 0, 1)
	does(t, s.Push(full(50, 51)))
	alloc(t, s, addr(2, 2), 5, 2, 3)
	does(t, s.Push(full()))
	leaves(t, s, addr(2, 2))
	alloc(t, s, addr(3, 3), 11, 4, 5, 6)
	if !s.Trim(2) {
		t.Error("not trimmed")
	}
	does(t, s.Push(full(52)))
	leaves(t, s, addr(3, 3))
	leaves(t, s, addr(1, 1))
	alloc(t, s, addr(4, 4), 17, 7)
	// This one is left, and of no choice.
	alloc(t, s, addr(5, 5), 22, 8, 9)
	leaves(t, s, addr(5, 5))
	var asked []uint64
	s.Change(func(w uint64) uint64 {
		if w >= 1000 {
			return w
		}
		asked = append(asked, w)
		return w*w + 1000
	})
	slices.Sort(asked)
	if want := []uint64{1, 2, 3, 4, 5, 7, 50, 51, 52}; !slices.Equal(asked, want) {
		t.Error(asked)
	}
	one, two := envOf(0, addr(1, 1), 1001), envOf(5, addr(2, 2), 1004, 1009)
	chained(t, s, 17, envOf(17, addr(4, 4), 1049))
	chained(t, s, 11, envOf(11, addr(3, 3), 1016, 1025), one)
	chained(t, s, 5, two, one)
	choices(t, s, known(full(3500, 3601), 0, 5), known(full(), 5, 11), known(full(3704), 11, 17))
	has(t, s, 17, 1049)
	leaves(t, s, addr(4, 4))
	does(t, s.Drop())
	does(t, s.Restore())
	has(t, s, 5, 1004, 1009)
	leaves(t, s, addr(2, 2))
	has(t, s, 0, 1001)
}

// P22.3: of many environments, in which all choices have a part, each slot is changed.
func TestChangeMany(t *testing.T) {
	s := made(t, api.MaxRoom, api.MaxSegs-1)
	n := 0
	for s.Alloc(4, addr(n, n)) == api.OK {
		for j := range 4 {
			does(t, s.Set(j+1, uint64(4*n+j)))
		}
		if n > api.MaxRoom/8-api.MaxSegs {
			does(t, s.Push(api.Choice{Args: []uint64{uint64(n)}}))
		}
		n++
	}
	s.Change(func(w uint64) uint64 { return ^w })
	for j, f := range s.Chain(s.Env()) {
		at := uint64(4 * (n - 1 - j))
		if !slices.Equal(f.Slots, []uint64{^at, ^(at + 1), ^(at + 2), ^(at + 3)}) {
			t.Fatal(f)
		}
	}
	for j := range s.Depth() {
		if c, _ := s.Choice(j); c.Args[0] != ^uint64(n-s.Depth()+j) {
			t.Fatal(j, c)
		}
	}
}

// R1: a function that is none, or that panics, or that calls the stack though it may not.
func TestChangeWrong(t *testing.T) {
	fill := func() *frame.Stack {
		s := made(t, 100, 4)
		alloc(t, s, addr(1, 1), 0, 1, 2)
		does(t, s.Push(full(3, 4)))
		alloc(t, s, addr(2, 2), 6, 5)
		return s
	}
	s := fill()
	s.Change(nil)
	for stop := uint64(1); stop <= 5; stop++ {
		s.Change(func(w uint64) uint64 {
			if w == stop {
				panic("stop")
			}
			return w + 100
		})
	}
	chained(t, s, 6, envOf(6, addr(2, 2), 5), envOf(0, addr(1, 1), 1, 2))
	choices(t, s, known(full(3, 4), 0, 6))
	for name, call := range map[string]func(){
		"leaves":   func() { s.Dealloc() },
		"alloc":    func() { s.Alloc(3, addr(9, 9)) },
		"push":     func() { s.Push(full(9, 9, 9)) },
		"drop":     func() { s.Drop() },
		"restore":  func() { s.Restore() },
		"trim":     func() { s.Trim(0) },
		"all left": func() { s.Drop(); s.Dealloc(); s.Dealloc(); s.Alloc(20, addr(8, 8)) },
		"change":   func() { s.Change(func(w uint64) uint64 { return w + 1 }) },
	} {
		s = fill()
		s.Change(func(w uint64) uint64 {
			call()
			return 1<<64 - 1
		})
		for s.Depth() > 0 {
			does(t, s.Restore())
			does(t, s.Drop())
		}
		for s.Env() != -1 {
			if base := s.Env(); s.Slots() > 20 || len(s.Chain(base)) == 0 {
				t.Fatal(name, base, s.Slots())
			}
			if _, e := s.Dealloc(); e != api.OK {
				t.Fatal(name, e)
			}
		}
	}
}

// R3: what is handed in is not kept, what is answered is nobody's.
func TestOwnMemory(t *testing.T) {
	s := made(t, 100, 4)
	alloc(t, s, addr(1, 1), 0, 1, 2)
	args := []uint64{3, 4, 99, 99}
	does(t, s.Push(full(args[:2]...)))
	if args[2] != 99 {
		t.Error("changed behind the end")
	}
	spoil := func(l []uint64) {
		l = l[:cap(l)]
		for j := range l {
			l[j] = 77
		}
	}
	spoil(args)
	want := known(full(3, 4), 0, 6)
	choices(t, s, want)
	c, _ := s.Last()
	d, _ := s.Choice(0)
	spoil(c.Args)
	if !sameChoice(d, want) {
		t.Error(d)
	}
	spoil(d.Args)
	choices(t, s, want)
	alloc(t, s, addr(2, 2), 6, 5)
	frames := []api.Frame{envOf(6, addr(2, 2), 5), envOf(0, addr(1, 1), 1, 2)}
	l, m := s.Chain(6), s.Chain(6)
	spoil(l[0].Slots)
	if !sameFrame(l[1], frames[1]) {
		t.Error(l[1])
	}
	spoil(l[1].Slots)
	if !slices.EqualFunc(m, frames, sameFrame) {
		t.Error(m)
	}
	clear(m[:cap(m)])
	chained(t, s, 6, frames...)
	choices(t, s, want)
}

// P22.3: of a nil Stack, and of one that New did not make.
func TestClosed(t *testing.T) {
	for _, s := range []*frame.Stack{nil, {}} {
		cont, e := s.Dealloc()
		w, f := s.Get(1)
		for _, e := range []api.Errno{e, f, s.Alloc(1, addr(1, 1)), s.Alloc(-1, addr(1, 1)), s.Set(1, 1), s.Push(full(1)), s.Turn(1), s.Drop(), s.Restore()} {
			if e != api.ErrClosed {
				t.Error(e)
			}
		}
		if cont != addr(0, 0) || w != 0 || s.Trim(0) || s.Slots() != 0 || s.Env() != -1 || s.Depth() != 0 || len(s.Chain(0)) > 0 || len(s.Chain(-1)) > 0 {
			t.Error("something is there")
		}
		choices(t, s)
		s.Change(func(w uint64) uint64 {
			t.Error("asked")
			return w
		})
		s.Change(nil)
	}
}

// R4: what is done to one stack is nothing to another one.
func TestApart(t *testing.T) {
	s, other := made(t, 50, 2), made(t, 50, 2)
	alloc(t, s, addr(1, 1), 0, 1, 2)
	does(t, s.Push(full(1)))
	empty(t, other)
	alloc(t, other, addr(2, 2), 0, 3)
	does(t, other.Push(full(2)))
	s.Change(func(w uint64) uint64 { return w + 10 })
	has(t, s, 0, 11, 12)
	has(t, other, 0, 3)
	choices(t, s, known(full(11), 0, 6))
	choices(t, other, known(full(2), 0, 5))
}
