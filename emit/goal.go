package emit

import "elenchus/api"

// levelArg is the register in which a goal that is no predicate's finds how many choices a cut in it leaves.
const levelArg = 2

// goals writes the goals, and how the clause ends.
func (w *writer) goals(l []api.Goal) {
	for at, g := range l {
		if g.Kind == api.GoalCut {
			w.cut()
			continue
		}
		w.arguments(g)
		if at == len(l)-1 {
			w.leave()
			w.add(last(g))
			return
		}
		w.add(w.call(g))
		w.calls++
	}
	w.leave()
	w.add(api.Instr{Op: api.InsProceed})
}

// leave writes that the environment, if there is one, is left.
func (w *writer) leave() {
	if w.plan.Env {
		w.add(api.Instr{Op: api.InsDealloc})
	}
}

// cut writes a cut.
func (w *writer) cut() {
	if w.calls == 0 {
		w.add(api.Instr{Op: api.InsNeck})
		return
	}
	w.add(api.Instr{Op: api.InsCut, V: slot(w.plan.Level)})
}

// call answers the call of a goal behind which others stand.
func (w *writer) call(g api.Goal) api.Instr {
	live := w.plan.Live[w.calls]
	if g.Kind == api.GoalCall {
		return api.Instr{Op: api.InsCall, S: g.Term.S, N: len(g.Term.L), A: live}
	}
	return api.Instr{Op: api.InsBody, A: live}
}

// last answers the call of the last goal.
func last(g api.Goal) api.Instr {
	if g.Kind == api.GoalCall {
		return api.Instr{Op: api.InsExec, S: g.Term.S, N: len(g.Term.L)}
	}
	return api.Instr{Op: api.InsGoal}
}

// arguments writes what puts a call's arguments into their registers.
func (w *writer) arguments(g api.Goal) {
	switch g.Kind {
	case api.GoalCall:
		for at, arg := range g.Term.L {
			w.put(arg, at+1)
		}
	case api.GoalBody:
		w.put(g.Term, 1)
		w.add(api.Instr{Op: api.InsPutVal, V: slot(w.plan.Level), A: levelArg})
	case api.GoalVar:
		w.put(g.Term, 1)
		w.add(api.Instr{Op: api.InsHere, V: levelArg})
	}
}

// put writes what puts a term into an argument's register.
func (w *writer) put(t api.Term, a int) {
	puts := family{first: api.InsPutVar, again: api.InsPutVal, atom: api.InsPutAtom, num: api.InsPutInt}
	if t.Kind == api.KindComp {
		w.build(t, a)
	} else {
		w.plain(puts, t, a)
	}
}

// build writes what builds a compound in a register: those that lie within it come first.
func (w *writer) build(t api.Term, reg int) {
	sets := family{first: api.InsSetVar, again: api.InsSetVal, atom: api.InsSetAtom, num: api.InsSetInt}
	var inner []int
	for _, arg := range t.L {
		if arg.Kind == api.KindComp {
			r := w.take()
			inner = append(inner, r)
			w.build(arg, r)
		}
	}
	w.add(api.Instr{Op: api.InsPutStr, S: t.S, N: len(t.L), A: reg})
	for _, arg := range t.L {
		if arg.Kind != api.KindComp {
			w.plain(sets, arg, 0)
			continue
		}
		w.add(api.Instr{Op: api.InsSetVal, V: inner[0]})
		inner = inner[1:]
	}
}
