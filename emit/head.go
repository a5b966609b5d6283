package emit

import "elenchus/api"

// within is a compound that is still to be taken apart, and the register in which it will be.
type within struct {
	t   api.Term
	reg int
}

// head writes what takes the head's arguments apart.
func (w *writer) head(t api.Term) {
	gets := family{first: api.InsGetVar, again: api.InsGetVal, atom: api.InsGetAtom, num: api.InsGetInt}
	for at, arg := range t.L {
		if arg.Kind == api.KindComp {
			w.apart(arg, at+1)
		} else {
			w.plain(gets, arg, at+1)
		}
	}
}

// apart writes what takes the compound in a register apart, and all that lies within it: level by level.
func (w *writer) apart(t api.Term, reg int) {
	unis := family{first: api.InsUniVar, again: api.InsUniVal, atom: api.InsUniAtom, num: api.InsUniInt}
	queue := []within{{t: t, reg: reg}}
	for len(queue) > 0 {
		next := queue[0]
		queue = queue[1:]
		w.add(api.Instr{Op: api.InsGetStr, S: next.t.S, N: len(next.t.L), A: next.reg})
		for _, arg := range next.t.L {
			if arg.Kind != api.KindComp {
				w.plain(unis, arg, 0)
				continue
			}
			inner := within{t: arg, reg: w.take()}
			w.add(api.Instr{Op: api.InsUniVar, V: inner.reg})
			queue = append(queue, inner)
		}
	}
}
