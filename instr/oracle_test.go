package instr_test

import (
	"regexp"
	"slices"
	"strconv"
	"strings"
	"testing"

	"elenchus/api"
	"elenchus/instr"
)

// Whether code is right, by other means: nothing is noted, but of each instruction one looks back to what stood ahead.

// lastOf answers the place of the last one of these operations ahead of at; -1 without one.
func lastOf(l []api.Instr, at int, names ...string) int {
	for at--; at >= 0; at-- {
		if slices.Contains(names, instr.Name(l[at].Op)) {
			return at
		}
	}
	return -1
}

// slotsAt answers how many slots there are ahead of an instruction; -1 without an environment.
func slotsAt(l []api.Instr, at int) int {
	alloc := lastOf(l, at, "alloc")
	if alloc < 0 || lastOf(l, at, "dealloc") > alloc {
		return -1
	}
	if call := lastOf(l, at, "call", "body"); call > alloc {
		return l[call].A
	}
	return l[alloc].N
}

// writes tells whether an instruction writes that register, and how many instructions later it is known.
func writes(i api.Instr, v int) (bool, int) {
	name := instr.Name(i.Op)
	if i.V == v && (name == "level" || name == "here" || strings.HasSuffix(name, "_var")) {
		return true, 0
	}
	if strings.HasPrefix(name, "put_") && i.A == v {
		if name == "put_str" {
			return true, i.N
		}
		return true, 0
	}
	return false, 0
}

// knownAt tells whether a register is known ahead of an instruction.
func knownAt(l []api.Instr, at, v, arity int) bool {
	if v < 0 && slotsAt(l, at) < -v {
		return false
	}
	border := lastOf(l, at, "call", "body")
	if v < 0 {
		border = lastOf(l, at, "alloc")
	} else if border < 0 && v <= arity {
		return true
	}
	for w := border + 1; w < at; w++ {
		if is, later := writes(l[w], v); is && w+later < at {
			return true
		}
	}
	return false
}

// argsKnownAt tells whether the registers from 1 to n are known.
func argsKnownAt(l []api.Instr, at, n, arity int) bool {
	for v := 1; v <= n; v++ {
		if !knownAt(l, at, v, arity) {
			return false
		}
	}
	return true
}

// mayStand tells whether an instruction may stand behind those ahead of it, which are right.
func mayStand(l []api.Instr, at, arity int) bool {
	i := l[at]
	name := instr.Name(i.Op)
	if !instr.May(i) || lastOf(l, at, "exec", "goal", "proceed", "fail") >= 0 {
		return false
	}
	want := ""
	if str := lastOf(l, at, "get_str", "put_str"); str >= 0 && at-str <= l[str].N {
		want = map[string]string{"get_str": "uni", "put_str": "set"}[instr.Name(l[str].Op)]
	}
	kind, _, _ := strings.Cut(name, "_")
	if want != "" && kind != want || want == "" && (kind == "uni" || kind == "set") {
		return false
	}
	if i.V < 0 && slotsAt(l, at) < -i.V {
		return false
	}
	if (strings.HasSuffix(name, "_val") || name == "cut") && !knownAt(l, at, i.V, arity) {
		return false
	}
	if kind == "get" && !knownAt(l, at, i.A, arity) {
		return false
	}
	env, slots := slotsAt(l, at) >= 0, slotsAt(l, at)
	called := lastOf(l, at, "call", "body") >= 0
	switch name {
	case "level", "cut":
		return i.V < 0
	case "alloc":
		return !env && !called
	case "dealloc":
		return env
	case "call":
		return env && i.A <= slots && argsKnownAt(l, at, i.N, arity)
	case "body":
		return env && i.A <= slots && argsKnownAt(l, at, 2, arity)
	case "exec":
		return !env && argsKnownAt(l, at, i.N, arity)
	case "goal":
		return !env && argsKnownAt(l, at, 2, arity)
	case "proceed":
		return !env
	case "neck":
		return !called
	}
	return true
}

// hold holds Check's answer against the oracle's.
func hold(t *testing.T, l []api.Instr, arity int) {
	t.Helper()
	want, e := len(l), api.ErrInstr
	if lastOf(l, len(l), "exec", "goal", "proceed", "fail") >= 0 {
		e = api.OK
	}
	for at := range l {
		if !mayStand(l, at, arity) {
			want, e = at, api.ErrInstr
			break
		}
	}
	if n, got := instr.Check(l, arity); n != want || got != e {
		var s []string
		for _, i := range l {
			s = append(s, instr.Text(i))
		}
		t.Fatal(strings.Join(s, ", "), "of arity", arity, "is", n, got, "not", want, e)
	}
}

// source is a row of numbers that look random.
type source uint64

func (s *source) next(n int) int {
	*s = *s*6364136223846793005 + 1442695040888963407
	return int(uint64(*s) >> 33 % uint64(n))
}

// instruction answers an instruction of that operation with small fields.
func (s *source) instruction(op int) api.Instr {
	named, n, v, a := ranges(op)
	i := api.Instr{Op: op, N: s.small(n), V: s.small(v), A: s.small(a)}
	if named {
		i.S = "p"
	}
	if i.V == 0 && v[1] > 0 {
		i.V = 1
	}
	return i
}

// small answers a number of a range near 0.
func (s *source) small(r [2]int) int {
	least, most := max(r[0], -3), min(r[1], 3)
	return least + s.next(most-least+1)
}

// P16.2: all short codes of a few instructions.
func TestSmallCodes(t *testing.T) {
	for _, few := range []string{
		"alloc 1, dealloc, neck, call p/1 0, proceed, level Y1, cut Y1, put_int 1 A1",
		"alloc 2, dealloc, body 1, put_var Y2 A2, here X1, get_var Y1 A1, goal, put_val Y1 A1",
		"get_str f/2 A1, put_str f/1 A2, uni_var X2, uni_val X2, set_var X1, set_val X2, exec p/2, fail",
	} {
		var all func(l []api.Instr, more int)
		some := read(t, few)
		all = func(l []api.Instr, more int) {
			for arity := range 2 {
				hold(t, l, arity)
			}
			if more == 0 {
				return
			}
			for _, i := range some {
				all(append(slices.Clone(l), i), more-1)
			}
		}
		all(nil, 5)
	}
}

// P16.2: many codes, most of which are right for long.
func TestManyCodes(t *testing.T) {
	s := source(16)
	for range 6000 {
		arity := s.next(4)
		var l []api.Instr
		for range s.next(25) {
			l = append(l, s.instruction(1+s.next(api.InsFail)))
			// Most of those that may not stand there are taken back, and most of those that end the code.
			for tries := 0; tries < 30 && s.next(40) > 0; tries++ {
				at := len(l) - 1
				if mayStand(l, at, arity) && (s.next(8) == 0 || !slices.Contains([]string{"exec", "goal", "proceed", "fail"}, instr.Name(l[at].Op))) {
					break
				}
				l[at] = s.instruction(1 + s.next(api.InsFail))
			}
		}
		hold(t, l, arity)
	}
}

// How instructions are written, by other means: regular expressions over signs that stand for the bytes.

// grammar answers the expressions of what is an instruction's text.
func grammar() []*regexp.Regexp {
	small := func(most int) string {
		var l []string
		for n := range most + 1 {
			l = append(l, strconv.Itoa(n))
		}
		return "(" + strings.Join(l, "|") + ")"
	}
	some := func(most int) string { return strings.Replace(small(most), "(0|", "(", 1) }
	reg := "(X" + some(255) + "|Y" + some(64) + ")"
	arg := "A" + some(255)
	name := `([a-z][A-Za-z0-9_]*|[-+*/\\^<>=~:.?@#&$]+|!|;|\[\]|\{\}|'([ -&(-\[\]-~\x{80}-\x{ff}]|\\\\|\\'|\\n|\\t|\\x(1?[0-9a-f]|7f)\\)*')`
	integer := "(0|-?[1-9][0-9]*)"
	var all []*regexp.Regexp
	for _, s := range []string{
		"(get_var|get_val|put_var|put_val) " + reg + " " + arg,
		"(get_atom|put_atom) NAME " + arg,
		"(get_int|put_int) INTEGER " + arg,
		"(get_str|put_str) NAME/" + some(16) + " " + arg,
		"(uni_var|uni_val|set_var|set_val|level|here|cut) " + reg,
		"(uni_atom|set_atom) NAME",
		"(uni_int|set_int) INTEGER",
		"alloc " + small(64),
		"call NAME/" + small(16) + " " + small(64),
		"exec NAME/" + small(16),
		"body " + small(64),
		"dealloc|goal|proceed|neck|fail",
	} {
		s = strings.ReplaceAll(strings.ReplaceAll(s, "NAME", "(?P<name>"+name+")"), "INTEGER", "(?P<integer>"+integer+")")
		all = append(all, regexp.MustCompile("^(?s:"+s+")$"))
	}
	return all
}

// isText tells whether the text is an instruction's.
func isText(all []*regexp.Regexp, s string) bool {
	signs := make([]rune, len(s))
	for at := range len(s) {
		signs[at] = rune(s[at])
	}
	for _, one := range all {
		found := one.FindStringSubmatch(string(signs))
		if found == nil {
			continue
		}
		if at := one.SubexpIndex("integer"); at >= 0 {
			n, err := strconv.Atoi(found[at])
			return err == nil && -api.MaxInt <= n && n <= api.MaxInt
		}
		if at := one.SubexpIndex("name"); at >= 0 {
			return isName(found[at])
		}
		return true
	}
	return false
}

// isName tells whether what is formed as a name is one, as short as need be.
func isName(s string) bool {
	plain := regexp.MustCompile(`^([a-z][A-Za-z0-9_]*|[-+*/\\^<>=~:.?@#&$]+|!|;|\[\]|\{\})$`)
	isPlain := func(s string) bool { return plain.MatchString(s) && s != "." && !strings.HasPrefix(s, "/*") }
	if s[0] != '\'' {
		return len(s) <= api.MaxName && isPlain(s)
	}
	signs := 0
	inner := s[1 : len(s)-1]
	for at := 0; at < len(inner); signs++ {
		switch {
		case strings.HasPrefix(inner[at:], "\\x"):
			// 9 and 10 have signs of their own.
			end := at + 2 + strings.Index(inner[at+2:], "\\")
			if code := inner[at+2 : end]; code == "9" || code == "a" {
				return false
			}
			at = end + 1
		case inner[at] == '\\':
			at += 2
		case inner[at] >= 0xc0:
			// A sign above 127 has two bytes here.
			at += 2
		default:
			at++
		}
	}
	bare := strings.ReplaceAll(inner, "\\\\", "\\")
	return signs <= api.MaxName && (!isPlain(bare) || strings.Contains(bare, "\\'"))
}

// P16.1, P16.3: of texts, and of what differs from them by a byte, just those are read that are formed as an instruction's, and as they are.
func TestParseForm(t *testing.T) {
	all := grammar()
	for text := range texts() {
		hold := func(s string) {
			i, e := instr.Parse(s)
			if want := isText(all, s); (e == api.OK) != want || e == api.OK && instr.Text(i) != s {
				t.Errorf("%q is read as %v, %v; is it one: %v", s, i, e, want)
			}
		}
		hold(text)
		if len(text) > 100 {
			continue
		}
		for at := range len(text) + 1 {
			for _, b := range []byte(" '\\/xX0A1aYn9.*-[\x00\n\x7f\x80\xff") {
				hold(text[:at] + string([]byte{b}) + text[at:])
				if at < len(text) {
					hold(text[:at] + string([]byte{b}) + text[at+1:])
				}
			}
			if at < len(text) {
				hold(text[:at] + text[at+1:])
			}
		}
	}
}

// P16.3: the texts of instructions of whatever names come back.
func TestTextsComeBack(t *testing.T) {
	s := source(163)
	signs := []string{"a", "B", "_", " ", "/", "*", "'", "\\", "A1", "/2", "\n", "\t", "\x00", "\x7f", "\x80", "[]", ".", ",", "0"}
	for range 20000 {
		i := s.instruction(1 + s.next(api.InsFail))
		if i.S != "" {
			i.S = ""
			for range s.next(6) {
				i.S += signs[s.next(len(signs))]
			}
		}
		text := instr.Text(i)
		if got, e := instr.Parse(text); e != api.OK || got != i {
			t.Fatalf("%v is %q, which is read as %v, %v", i, text, got, e)
		}
	}
}
