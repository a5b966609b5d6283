package emit

import "elenchus/api"

// writer writes the code of one clause.
type writer struct {
	code  []api.Instr
	plan  api.Plan
	slots map[int]int // the registers of the permanent variables
	regs  map[int]int // the registers of the variables that came so far
	temps int         // the temporary register that was taken last
	calls int         // how many calls came so far
}

// begin answers a writer that takes temporary registers behind the first ones.
func begin(p api.Plan, base int) *writer {
	w := &writer{plan: p, slots: make(map[int]int), regs: make(map[int]int), temps: base}
	for at, v := range p.Slots {
		w.slots[v] = slot(at + 1)
	}
	return w
}

// slot answers the register that a slot is, from 1 on.
func slot(n int) int {
	return -n
}

// add puts an instruction behind the others.
func (w *writer) add(i api.Instr) {
	w.code = append(w.code, i)
}

// take takes the next temporary register.
func (w *writer) take() int {
	w.temps++
	return w.temps
}

// register answers a variable's register, and whether it is the first time that this variable comes.
func (w *writer) register(v int) (reg int, first bool) {
	if reg, came := w.regs[v]; came {
		return reg, false
	}
	reg, permanent := w.slots[v]
	if !permanent {
		reg = w.take()
	}
	w.regs[v] = reg
	return reg, true
}

// family is those operations that do the same, each with another kind of term.
type family struct {
	first int // of a variable, the first time
	again int // of a variable that came already
	atom  int
	num   int
}

// plain writes the instruction of a variable, an atom or an integer; a is an argument's register, or 0.
func (w *writer) plain(f family, t api.Term, a int) {
	switch t.Kind {
	case api.KindVar:
		reg, first := w.register(t.N)
		op := f.again
		if first {
			op = f.first
		}
		w.add(api.Instr{Op: op, V: reg, A: a})
	case api.KindAtom:
		w.add(api.Instr{Op: f.atom, S: t.S, A: a})
	case api.KindInt:
		w.add(api.Instr{Op: f.num, N: t.N, A: a})
	}
}

// prologue writes what stands ahead of the head.
func (w *writer) prologue() {
	if w.plan.Env {
		w.add(api.Instr{Op: api.InsAlloc, N: len(w.plan.Slots)})
	}
	if w.plan.Level > 0 {
		w.add(api.Instr{Op: api.InsLevel, V: slot(w.plan.Level)})
	}
}
