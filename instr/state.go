package instr

import "elenchus/api"

// state is what holds ahead of an instruction.
type state struct {
	temps  [api.MaxRegs + 1]bool  // which temporary registers are known
	slots  [api.MaxSlots + 1]bool // which slots are known
	env    bool                   // there is an environment
	have   int                    // how many slots there are
	called bool                   // a call stood ahead
	left   int                    // how many of a compound's arguments have not come yet
	parts  fields                 // what these are
	made   int                    // the register that is known behind them; 0: none
	ended  bool                   // nothing may stand here
}

// begin answers what holds at first.
func begin(arity int) *state {
	var s state
	for a := 1; a <= arity; a++ {
		s.note(a)
	}
	return &s
}

// goOn tells whether an instruction that may be may stand here; if so, what is behind it holds then.
func (s *state) goOn(i api.Instr) bool {
	f := fieldsOf(i.Op)
	if s.ended || !s.isDue(f) || !s.mayUse(f, i) || !s.mayDo(i) {
		return false
	}
	s.do(i)
	s.write(f, i)
	s.ended = f.has(isLast)
	return true
}

// isDue tells whether an operation of these fields may stand here, as far as compounds and their arguments go.
func (s *state) isDue(f fields) bool {
	if s.left > 0 {
		return f.has(s.parts)
	}
	return !f.has(isRead | isSet)
}

// mayUse tells whether an instruction's slot is there, and the registers that it reads are known.
func (s *state) mayUse(f fields, i api.Instr) bool {
	switch {
	case f.has(slotV) && i.V > 0, -i.V > s.have:
		return false
	case f.has(readV) && !s.known(i.V), f.has(readA) && !s.known(i.A):
		return false
	}
	return true
}

// known tells whether a register is known.
func (s *state) known(v int) bool {
	if v < 0 {
		return s.slots[-v]
	}
	return s.temps[v]
}

// note makes a register known.
func (s *state) note(v int) {
	if v < 0 {
		s.slots[-v] = true
		return
	}
	s.temps[v] = true
}

// allKnown tells whether the registers of so many arguments are known.
func (s *state) allKnown(arity int) bool {
	for a := 1; a <= arity; a++ {
		if !s.known(a) {
			return false
		}
	}
	return true
}

// mayDo tells whether an instruction may stand here, as far as the environment goes, and what is called.
func (s *state) mayDo(i api.Instr) bool {
	switch i.Op {
	case api.InsAlloc:
		return !s.env && !s.called
	case api.InsDealloc:
		return s.env
	case api.InsCall:
		return s.env && i.A <= s.have && s.allKnown(i.N)
	case api.InsBody:
		return s.env && i.A <= s.have && s.allKnown(2)
	case api.InsExec:
		return !s.env && s.allKnown(i.N)
	case api.InsGoal:
		return !s.env && s.allKnown(2)
	case api.InsProceed:
		return !s.env
	case api.InsNeck:
		return !s.called
	}
	return true
}

// do notes what an instruction makes of the environment, and what is not known any more.
func (s *state) do(i api.Instr) {
	switch i.Op {
	case api.InsAlloc:
		s.env, s.have = true, i.N
		clear(s.slots[:])
	case api.InsDealloc:
		s.env, s.have = false, 0
	case api.InsCall, api.InsBody:
		s.called, s.have = true, i.A
		clear(s.temps[:])
	}
}

// write makes known what an instruction writes.
func (s *state) write(f fields, i api.Instr) {
	if f.has(writtenV) {
		s.note(i.V)
	}
	switch {
	case i.Op == api.InsGetStr:
		s.left, s.parts, s.made = i.N, isRead, 0
	case i.Op == api.InsPutStr:
		s.left, s.parts, s.made = i.N, isSet, i.A
	case f.has(writtenA):
		s.note(i.A)
	case f.has(isRead | isSet):
		s.argument()
	}
}

// argument notes that one of a compound's arguments has come.
func (s *state) argument() {
	s.left--
	if s.left == 0 && s.made > 0 {
		s.note(s.made)
	}
}
