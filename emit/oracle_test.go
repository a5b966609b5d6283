package emit_test

import (
	"cmp"
	"slices"
	"strconv"
	"strings"
	"testing"

	"elenchus/api"
	"elenchus/clause"
	"elenchus/emit"
	"elenchus/instr"
	"elenchus/plan"
	"elenchus/term"
)

// The code again, by other means: first it is written as texts in which a register stands by the name of its thing, <v7> a variable, <c1.2> a compound by its path; then these texts are gone through, and numbers are put in.

// inner is a compound by its path.
type inner struct {
	path  string
	depth int
	t     api.Term
}

// child answers the path of an argument.
func child(path string, at int) string { return path + "." + strconv.Itoa(at) }

// compounds answers a term's compounds, itself too, each behind the one in which it lies.
func compounds(t api.Term, path string, depth int) []inner {
	if t.Kind != api.KindComp {
		return nil
	}
	l := []inner{{path, depth, t}}
	for at, arg := range t.L {
		l = append(l, compounds(arg, child(path, at), depth+1)...)
	}
	return l
}

// plain answers the text of an instruction of what is no compound.
func plain(kind string, t api.Term, behind string) string {
	switch t.Kind {
	case api.KindVar:
		return kind + "_? <v" + strconv.Itoa(t.N) + ">" + behind
	case api.KindAtom:
		return text(api.Instr{Op: api.InsUniAtom, S: t.S}, "uni_atom", kind+"_atom") + behind
	}
	return kind + "_int " + strconv.Itoa(t.N) + behind
}

// text answers an instruction's text with another word in a word's place.
func text(i api.Instr, word, with string) string {
	return with + strings.TrimPrefix(instr.Text(i), word)
}

// structure answers the text of a get_str or put_str.
func structure(kind string, t api.Term, register string) string {
	return text(api.Instr{Op: api.InsExec, S: t.S, N: len(t.L)}, "exec", kind+"_str") + " " + register
}

// argument answers an argument's register.
func argument(at int) string { return "A" + strconv.Itoa(at+1) }

// heads answers the texts of a head.
func heads(t api.Term) []string {
	var lines []string
	for at, arg := range t.L {
		path := child("h", at)
		if arg.Kind != api.KindComp {
			lines = append(lines, plain("get", arg, " "+argument(at)))
			continue
		}
		l := compounds(arg, path, 0)
		slices.SortStableFunc(l, func(a, b inner) int { return cmp.Compare(a.depth, b.depth) })
		for n, in := range l {
			register := argument(at)
			if n > 0 {
				register = "A<c" + in.path + ">"
			}
			lines = append(lines, structure("get", in.t, register))
			for w, arg := range in.t.L {
				if arg.Kind == api.KindComp {
					lines = append(lines, "uni_var <c"+child(in.path, w)+">")
				} else {
					lines = append(lines, plain("uni", arg, ""))
				}
			}
		}
	}
	return lines
}

// puts answers the texts that put a term into a register; a line that begins with a star just names a register.
func puts(t api.Term, path, register string) []string {
	if t.Kind != api.KindComp {
		return []string{plain("put", t, " "+register)}
	}
	var ahead, behind []string
	for at, arg := range t.L {
		in := child(path, at)
		if arg.Kind != api.KindComp {
			behind = append(behind, plain("set", arg, ""))
			continue
		}
		ahead = append(ahead, "*<c"+in+">")
		ahead = append(ahead, puts(arg, in, "A<c"+in+">")...)
		behind = append(behind, "set_val <c"+in+">")
	}
	return slices.Concat(ahead, []string{structure("put", t, register)}, behind)
}

// goals answers the texts of the goals, each with its call behind it, its slots' number not yet.
func goals(whole api.Clause, p api.Plan) []string {
	level := "Y" + strconv.Itoa(p.Level)
	var lines []string
	for n, g := range whole.Goals {
		path := "g" + strconv.Itoa(n)
		switch g.Kind {
		case api.GoalCut:
			if plan.Chunk(whole, n) == 0 {
				lines = append(lines, "neck")
			} else {
				lines = append(lines, "cut "+level)
			}
		case api.GoalCall:
			for at, arg := range g.Term.L {
				lines = append(lines, puts(arg, child(path, at), argument(at))...)
			}
			lines = append(lines, text(api.Instr{Op: api.InsExec, S: g.Term.S, N: len(g.Term.L)}, "exec", "call"))
		case api.GoalBody:
			lines = append(lines, puts(g.Term, path, "A1")...)
			lines = append(lines, "put_val "+level+" A2", "body")
		case api.GoalVar:
			lines = append(lines, puts(g.Term, path, "A1")...)
			lines = append(lines, "here X2", "body")
		}
	}
	return lines
}

// ended answers the goals' texts with how many slots live, and the clause's end.
func ended(lines []string, p api.Plan) []string {
	calls := 0
	for at, s := range lines {
		if word, _, _ := strings.Cut(s, " "); word != "call" && word != "body" {
			continue
		}
		if at < len(lines)-1 {
			lines[at] += " " + strconv.Itoa(p.Live[calls])
			calls++
		}
	}
	var leave []string
	if p.Env {
		leave = []string{"dealloc"}
	}
	if len(lines) == 0 {
		return append(leave, "proceed")
	}
	last := lines[len(lines)-1]
	switch word, rest, _ := strings.Cut(last, " "); word {
	case "call":
		return slices.Concat(lines[:len(lines)-1], leave, []string{"exec " + rest})
	case "body":
		return slices.Concat(lines[:len(lines)-1], leave, []string{"goal"})
	}
	return slices.Concat(lines, leave, []string{"proceed"})
}

// numbered answers the texts with numbers in the places of the names; and the greatest number.
func numbered(lines []string, slots []int, base int) ([]string, int) {
	names := map[string]string{}
	for at, v := range slots {
		names["<v"+strconv.Itoa(v)+">"] = "Y" + strconv.Itoa(at+1)
	}
	came := map[string]bool{}
	var done []string
	for _, s := range lines {
		if at := strings.Index(s, "<"); at >= 0 {
			name := s[at : at+strings.Index(s[at:], ">")+1]
			if names[name] == "" {
				base++
				names[name] = "X" + strconv.Itoa(base)
			}
			op := "_var"
			if came[name] {
				op = "_val"
			}
			s = strings.Replace(s, "_?", op, 1)
			s = strings.Replace(s, "A"+name, "A"+strings.TrimPrefix(names[name], "X"), 1)
			s = strings.Replace(s, name, names[name], 1)
			came[name] = true
		}
		if s[0] != '*' {
			done = append(done, s)
		}
	}
	return done, base
}

// codeOf answers the texts of a clause's code, and the greatest register.
func codeOf(whole api.Clause) ([]string, int) {
	p, _ := plan.Of(whole)
	var lines []string
	if p.Env {
		lines = append(lines, "alloc "+strconv.Itoa(len(p.Slots)))
	}
	if p.Level > 0 {
		lines = append(lines, "level Y"+strconv.Itoa(p.Level))
	}
	lines = slices.Concat(lines, heads(whole.Head), ended(goals(whole, p), p))
	return numbered(lines, p.Slots, emit.Base(whole))
}

// hold holds the package's answers of a clause against those of the oracle, and tells whether it was compiled.
func hold(t *testing.T, whole api.Clause) bool {
	t.Helper()
	code, e := emit.Compile(whole)
	if _, refused := plan.Of(whole); refused != api.OK {
		if e != refused || len(code) > 0 {
			t.Fatal(whole, e)
		}
		return false
	}
	lines, most := codeOf(whole)
	if most > api.MaxRegs || len(lines) > api.MaxCode {
		if e != api.ErrMany || len(code) > 0 {
			t.Fatal(whole, e)
		}
		return false
	}
	if want, got := strings.Join(lines, "; "), told(code); e != api.OK || got != want {
		t.Fatalf("%v %d is\n%s, not\n%s", whole, e, got, want)
	}
	if n, e := instr.Check(code, len(whole.Head.L)); n != len(code) || e != api.OK {
		t.Fatal(whole, told(code), n, e)
	}
	return true
}

// source is a row of numbers that look random.
type source uint64

func (s *source) next(n int) int {
	*s = *s*6364136223846793005 + 1442695040888963407
	return int(uint64(*s) >> 33 % uint64(n))
}

// term answers a term of variables below n.
func (s *source) term(levels, n int) api.Term {
	switch k := s.next(8); {
	case k < 3:
		return v(s.next(n))
	case k == 3 || levels == 0:
		return []api.Term{a("a"), i(7), i(-3), a("[]"), a("A b"), a("{}")}[s.next(6)]
	}
	return c([]string{"f", "g", "h", ".", ";"}[s.next(5)], s.terms(1+s.next(4), levels-1, n)...)
}

// terms answers so many terms.
func (s *source) terms(many, levels, n int) []api.Term {
	var l []api.Term
	for range many {
		l = append(l, s.term(levels, n))
	}
	return l
}

// called answers an atom, or a compound.
func (s *source) called(name string, levels, n int) api.Term {
	if l := s.terms(s.next(5), levels, n); len(l) > 0 {
		return c(name, l...)
	}
	return a(name)
}

// clause answers a clause of variables below n, and up to that many goals.
func (s *source) clause(goals, levels, n int) api.Clause {
	whole := of(s.called("p", levels, n))
	for range s.next(goals + 1) {
		g := cut()
		switch s.next(8) {
		case 0:
			g = body([]api.Term{c(";", s.terms(2, levels, n)...), c("->", s.terms(2, levels, n)...), c("\\+", s.term(levels, n))}[s.next(3)])
		case 1:
			g = called(s.next(n))
		case 2, 3, 4, 5:
			g = call(s.called("q", levels, n))
		}
		whole.Goals = append(whole.Goals, g)
	}
	return whole
}

// P17.1, P17.3, of all small clauses: a head and up to four goals, each of one of a few kinds.
func TestSmallClauses(t *testing.T) {
	goals := []api.Goal{cut(), call(a("b")), call(c("b", v(0), c("f", c("g", v(1))))), called(1), body(c(";", c("h", v(0)), v(1)))}
	heads := []api.Term{a("p"), c("p", v(0)), c("p", c("f", c("g", v(1)), v(0)), v(1))}
	var all func(l []api.Goal, more int)
	all = func(l []api.Goal, more int) {
		for _, head := range heads {
			hold(t, of(head, l...))
		}
		if more == 0 {
			return
		}
		for _, g := range goals {
			all(append(slices.Clone(l), g), more-1)
		}
	}
	all(nil, 4)
}

// P17.1, P17.3, of many clauses: most fit, some do not.
func TestManyClauses(t *testing.T) {
	s := source(17)
	for round := range 5000 {
		hold(t, s.clause(1+round%20, round%6, 1+s.next(1+round%30)))
	}
	fit := 0
	for range 400 {
		if hold(t, s.clause(64, 5, 60)) {
			fit++
		}
	}
	if fit < 50 || fit > 350 {
		t.Error(fit, "of 400 are compiled")
	}
}

// P17.1: what code takes apart, and what it puts together, is what the clause is.
func TestMeaning(t *testing.T) {
	s := source(1)
	for round := range 3000 {
		whole := s.clause(1+round%8, round%4, 1+s.next(1+round%9))
		code, e := emit.Compile(whole)
		if e != api.OK {
			continue
		}
		got := meant(code, whole.Head.S, len(whole.Head.L))
		if !term.Variant(got, clause.Back(whole)) {
			t.Fatal(whole, told(code), got)
		}
	}
}

// run is code that is gone through: what each register is; a variable by its number may turn out to be another term later.
type run struct {
	regs  map[int]api.Term
	bound map[int]api.Term
	vars  int
	goals []api.Term
	gets  []api.Term // arguments that come next
	sets  *api.Term  // the compound whose arguments come next
	left  int
	into  int
}

// fresh answers a new variable.
func (r *run) fresh() api.Term {
	r.vars++
	return v(r.vars)
}

// whole answers a term with all that its variables turned out to be.
func (r *run) whole(t api.Term) api.Term {
	if is, ok := r.bound[t.N]; ok && t.Kind == api.KindVar {
		return r.whole(is)
	}
	if t.Kind != api.KindComp {
		return t
	}
	out := c(t.S)
	for _, arg := range t.L {
		out.L = append(out.L, r.whole(arg))
	}
	return out
}

// meant answers the term of the clause whose code that is.
func meant(code []api.Instr, name string, arity int) api.Term {
	r := &run{regs: map[int]api.Term{}, bound: map[int]api.Term{}}
	head := a(name)
	for at := range arity {
		r.regs[at+1] = r.fresh()
		head = c(name, append(slices.Clone(head.L), r.regs[at+1])...)
	}
	for _, i := range code {
		if word := instr.Name(i.Op); strings.HasPrefix(word, "get") || strings.HasPrefix(word, "uni") {
			r.take(i)
		} else if strings.HasPrefix(word, "put") || strings.HasPrefix(word, "set") {
			r.make(i)
		} else {
			r.do(i)
		}
	}
	head = r.whole(head)
	if len(r.goals) == 0 {
		return head
	}
	b := r.whole(r.goals[len(r.goals)-1])
	for _, g := range slices.Backward(r.goals[:len(r.goals)-1]) {
		b = c(",", r.whole(g), b)
	}
	return c(":-", head, b)
}

// take does an instruction of the head.
func (r *run) take(i api.Instr) {
	of := r.regs[i.A]
	if i.A == 0 {
		of, r.gets = r.gets[0], r.gets[1:]
	}
	switch i.Op {
	case api.InsGetVar, api.InsUniVar:
		r.regs[i.V] = of
	case api.InsGetVal, api.InsUniVal:
		r.bound[of.N] = r.regs[i.V]
	case api.InsGetAtom, api.InsUniAtom:
		r.bound[of.N] = a(i.S)
	case api.InsGetInt, api.InsUniInt:
		r.bound[of.N] = term.Int(i.N)
	case api.InsGetStr:
		r.gets = nil
		for range i.N {
			r.gets = append(r.gets, r.fresh())
		}
		r.bound[of.N] = c(i.S, r.gets...)
	}
}

// make does an instruction that puts something together.
func (r *run) make(i api.Instr) {
	var t api.Term
	switch i.Op {
	case api.InsPutVar, api.InsSetVar:
		r.regs[i.V] = r.fresh()
		t = r.regs[i.V]
	case api.InsPutVal, api.InsSetVal:
		t = r.regs[i.V]
	case api.InsPutAtom, api.InsSetAtom:
		t = a(i.S)
	case api.InsPutInt, api.InsSetInt:
		t = term.Int(i.N)
	case api.InsPutStr:
		r.sets, r.left, r.into = &api.Term{Kind: api.KindComp, S: i.S}, i.N, i.A
		return
	}
	if i.A > 0 {
		r.regs[i.A] = t
		return
	}
	r.sets.L = append(r.sets.L, t)
	if r.left--; r.left == 0 {
		r.regs[r.into] = *r.sets
	}
}

// do does what else there is.
func (r *run) do(i api.Instr) {
	switch i.Op {
	case api.InsNeck, api.InsCut:
		r.goals = append(r.goals, a("!"))
	case api.InsBody, api.InsGoal:
		r.goals = append(r.goals, r.regs[1])
	case api.InsCall, api.InsExec:
		t := a(i.S)
		if i.N > 0 {
			t = c(i.S)
		}
		for at := range i.N {
			t.L = append(t.L, r.regs[at+1])
		}
		r.goals = append(r.goals, t)
	}
}
