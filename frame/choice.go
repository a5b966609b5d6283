package frame

import "elenchus/api"

// Push makes a choice, which knows the current environment and the top.
func (s *Stack) Push(c api.Choice) api.Errno {
	if s.isClosed() {
		return api.ErrClosed
	}
	if len(s.choices) >= s.limit {
		return api.ErrFull
	}
	c = copied(c)
	c.Env, c.Top = s.env, s.top()
	s.choices = append(s.choices, c)
	return api.OK
}

// Last answers the last choice, if there is one.
func (s *Stack) Last() (api.Choice, bool) {
	return s.Choice(s.Depth() - 1)
}

// Turn has the last choice go on with another one.
func (s *Stack) Turn(next int) api.Errno {
	return s.withLast(func(c *api.Choice) { c.Next = next })
}

// Drop takes the last choice away.
func (s *Stack) Drop() api.Errno {
	return s.withLast(func(c *api.Choice) {
		// What is gone is not to hold on to its arguments.
		*c = api.Choice{}
		s.choices = s.choices[:len(s.choices)-1]
	})
}

// Restore makes the last choice's environment the current one.
func (s *Stack) Restore() api.Errno {
	return s.withLast(func(c *api.Choice) { s.env = c.Env })
}

// Depth answers how many choices there are.
func (s *Stack) Depth() int {
	if s.isClosed() {
		return 0
	}
	return len(s.choices)
}

// Choice answers the i-th choice, from 0 on.
func (s *Stack) Choice(i int) (api.Choice, bool) {
	if i < 0 || i >= s.Depth() {
		return api.Choice{}, false
	}
	return copied(s.choices[i]), true
}

// lastTop answers the last choice's top, 0 without one: what lies below is kept.
func (s *Stack) lastTop() int {
	if len(s.choices) == 0 {
		return 0
	}
	return s.choices[len(s.choices)-1].Top
}

// withLast hands the last choice on, if there is one.
func (s *Stack) withLast(do func(c *api.Choice)) api.Errno {
	if s.isClosed() {
		return api.ErrClosed
	}
	if len(s.choices) == 0 {
		return api.ErrNone
	}
	do(&s.choices[len(s.choices)-1])
	return api.OK
}

// copied answers the choice with arguments in memory of their own.
func copied(c api.Choice) api.Choice {
	c.Args = append([]uint64(nil), c.Args...)
	return c
}
