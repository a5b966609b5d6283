package instr_test

import (
	"fmt"
	"math"
	"slices"
	"strings"
	"testing"

	"elenchus/api"
	"elenchus/instr"
)

// read answers the code of a text: instructions, with a comma and a blank between each two.
func read(t *testing.T, s string) []api.Instr {
	t.Helper()
	var l []api.Instr
	if s == "" {
		return nil
	}
	for one := range strings.SplitSeq(s, ", ") {
		i, e := instr.Parse(one)
		if e != api.OK {
			t.Fatalf("%s: %q", s, one)
		}
		l = append(l, i)
	}
	return l
}

// right are codes that are right, with their arity.
func right() map[string]int {
	return map[string]int{
		"put_int 1 A1, exec p/1": 0,
		"proceed":                0,
		"fail":                   0,
		"exec p/0":               0,
		"neck, neck, proceed":    0,
		"exec p/16":              16,
		"goal":                   2,
		"put_atom a A1, goal":    16,

		"get_var X3 A1, get_str f/1 A2, uni_var X4, put_val X4 A1, exec q/1": 2,
		"get_val X1 A2, proceed":                                                                 2,
		"get_var X255 A1, get_atom a A255, proceed":                                              1,
		"get_atom a A1, get_int 3 A2, get_val X2 A1, proceed":                                    2,
		"get_str f/2 A1, uni_var X1, uni_val X1, proceed":                                        1,
		"get_str f/3 A1, uni_atom a, uni_int 1, uni_var X9, get_str g/1 A9, uni_val X9, proceed": 1,
		"put_var X1 A2, goal":                                                                    0,
		"put_var X2 A1, goal":                                                                    0,
		"put_str f/1 A1, set_int 1, exec p/1":                                                    0,
		"put_str f/2 A2, set_var X2, set_val X2, put_str g/1 A1, set_val X2, goal":               0,
		"put_str f/1 A1, set_val X1, exec p/1":                                                   1,
		"put_str f/16 A1" + strings.Repeat(", set_atom a", 16) + ", exec p/1":                    0,

		"alloc 0, dealloc, proceed":                                                                 0,
		"alloc 64, get_var Y64 A1, get_val Y64 A1, dealloc, proceed":                                1,
		"alloc 1, dealloc, alloc 2, get_var Y2 A1, dealloc, proceed":                                1,
		"alloc 0, call p/0 0, dealloc, proceed":                                                     0,
		"alloc 0, fail":                                                                             0,
		"alloc 1, call p/1 1, fail":                                                                 1,
		"alloc 1, level Y1, call p/1 1, cut Y1, dealloc, proceed":                                   1,
		"alloc 1, level Y1, cut Y1, cut Y1, dealloc, proceed":                                       0,
		"alloc 2, here Y2, get_val Y2 A1, dealloc, proceed":                                         1,
		"here X1, here X2, goal":                                                                    0,
		"alloc 1, here X2, put_atom a A1, body 1, here X1, put_var Y1 A2, body 0, dealloc, proceed": 0,
		"alloc 2, get_var Y1 A1, call p/1 1, put_val Y1 A1, dealloc, exec q/1":                      1,
		"alloc 2, get_var Y1 A1, call p/1 2, put_var Y2 A1, call q/1 2, put_val Y2 A1, put_val Y1 A2, dealloc, exec r/2":    1,
		"alloc 1, call p/2 1, level Y1, put_val Y1 A1, dealloc, exec q/1":                                                   2,
		"alloc 1, get_str f/1 A1, uni_var Y1, put_str g/2 A1, set_val Y1, set_var Y1, call p/1 1, cut Y1, dealloc, proceed": 1,
		"neck, alloc 1, neck, level Y1, neck, call p/0 1, dealloc, proceed":                                                 0,
		"neck, alloc 1, dealloc, neck, proceed":                                                                             0,
	}
}

// P16.2, P16.3: code that is right, and of each beginning of it how far it is right.
func TestCheckRight(t *testing.T) {
	for s, arity := range right() {
		l := read(t, s)
		if n, e := instr.Check(l, arity); e != api.OK || n != len(l) {
			t.Error(s, "is not right at", n, e)
		}
		for end := range l {
			if n, e := instr.Check(l[:end], arity); e != api.ErrInstr || n != end {
				t.Error(s, "up to", end, "is", n, e)
			}
		}
		if n, e := instr.Check(append(l, l...), arity); e != api.ErrInstr || n != len(l) {
			t.Error(s, "twice is", n, e)
		}
	}
}

// P16.2: code that is not right, with the mark @ ahead of the first instruction that may not stand there.
func TestCheckWrong(t *testing.T) {
	for s, arity := range map[string]int{
		// The end.
		"@":                            0,
		"neck, @":                      0,
		"get_str f/2 A1, uni_int 1, @": 1,
		"put_str f/2 A1, @":            1,
		"alloc 1, dealloc, @":          0,
		"proceed, @proceed":            0,
		"fail, @neck":                  0,
		"goal, @fail":                  2,
		"exec p/0, @alloc 0, dealloc":  0,

		// Registers that are not known.
		"@exec p/1":                              0,
		"@goal":                                  1,
		"@goal, fail":                            0,
		"put_atom a A2, @exec p/2":               0,
		"put_atom a A1, @exec p/2":               0,
		"put_atom a A1, @goal":                   0,
		"put_atom a A2, @goal":                   0,
		"@exec p/16":                             15,
		"@get_var X1 A1, proceed":                0,
		"@get_val X2 A1, proceed":                1,
		"@get_val X1 A2, proceed":                1,
		"@get_atom a A2, proceed":                1,
		"@get_int 1 A2, proceed":                 1,
		"@get_str f/1 A2, uni_int 1, proceed":    1,
		"@put_val X2 A1, exec p/1":               1,
		"@put_val X2 A2, goal":                   1,
		"get_str f/1 A1, @uni_val X2, proceed":   1,
		"put_str f/1 A1, @set_val X2, exec p/1":  1,
		"put_str f/1 A2, @set_val X2, goal":      1,
		"put_str f/2 A2, set_int 1, @set_val X2": 1,
		"alloc 0, @call p/2 0, dealloc, proceed": 1,
		"alloc 0, @body 0, dealloc, proceed":     1,
		"alloc 0, put_atom a A2, @body 0":        0,
		"alloc 1, @get_val Y1 A1, proceed":       1,
		"alloc 1, @put_val Y1 A1, proceed":       1,
		"alloc 1, @cut Y1, proceed":              1,

		// Slots that are not there, and what has none.
		"@get_var Y1 A1, proceed":                                        1,
		"@here Y1, proceed":                                              1,
		"@level Y1, proceed":                                             1,
		"@put_var Y1 A1, proceed":                                        1,
		"alloc 0, @get_var Y1 A1, proceed":                               1,
		"alloc 2, get_var Y2 A1, @get_var Y3 A1":                         1,
		"alloc 2, level Y2, @level Y3":                                   1,
		"alloc 2, @here Y64":                                             1,
		"get_str f/1 A1, @uni_var Y1, proceed":                           1,
		"put_str f/1 A1, @set_var Y1, exec p/1":                          1,
		"@level X1, proceed":                                             1,
		"@cut X1, proceed":                                               1,
		"here X1, @cut X1, proceed":                                      1,
		"alloc 1, level Y1, dealloc, @cut Y1, proceed":                   1,
		"alloc 1, level Y1, dealloc, alloc 1, @cut Y1, dealloc, proceed": 1,

		// Arguments of compounds.
		"@uni_int 1, proceed":                                     1,
		"@set_int 1, proceed":                                     1,
		"@uni_var X2, proceed":                                    1,
		"@set_var X2, proceed":                                    1,
		"get_str f/1 A1, @proceed":                                1,
		"get_str f/2 A1, uni_int 1, @proceed":                     1,
		"get_str f/2 A1, uni_int 1, @neck, uni_int 1, proceed":    1,
		"get_str f/1 A1, uni_int 1, @uni_int 1, proceed":          1,
		"get_str f/1 A1, @set_int 1, proceed":                     1,
		"get_str f/1 A1, uni_int 1, @set_int 1, proceed":          1,
		"put_str f/1 A1, @uni_int 1, proceed":                     1,
		"put_str f/1 A1, set_int 1, @uni_int 1, proceed":          1,
		"put_str f/1 A1, set_int 1, @set_int 1, proceed":          1,
		"put_str f/2 A1, set_int 1, @exec p/1":                    1,
		"get_str f/2 A1, uni_var X2, @get_str f/1 A2, uni_int 1":  1,
		"put_str f/1 A1, @put_str g/1 A2, set_int 1, set_int 1":   1,
		"get_str f/1 A1, @fail":                                   1,
		"get_str f/1 A1, uni_int 1, put_str f/2 A1, @uni_int 1":   1,
		"put_str f/1 A1, set_int 1, get_str f/2 A1, @set_int 1":   1,
		"put_str f/1 A3, set_int 1, get_str f/1 A1, uni_int 1, @": 1,

		// Environments, and calls.
		"alloc 0, @alloc 0, dealloc, proceed":                           0,
		"alloc 0, @proceed":                                             0,
		"alloc 0, @exec p/0":                                            0,
		"alloc 0, @goal":                                                2,
		"@dealloc, proceed":                                             0,
		"alloc 0, dealloc, @dealloc":                                    0,
		"@call p/0 0, proceed":                                          0,
		"@body 0, proceed":                                              2,
		"alloc 1, dealloc, @call p/0 0":                                 0,
		"alloc 1, dealloc, @body 0":                                     2,
		"alloc 1, @call p/0 2, dealloc, proceed":                        0,
		"alloc 1, @body 2, dealloc, proceed":                            2,
		"alloc 2, call p/0 1, @call p/0 2":                              0,
		"alloc 2, body 1, @call p/0 2":                                  2,
		"alloc 2, call p/0 1, @get_var Y1 A1":                           1,
		"alloc 2, call p/0 1, @here Y2":                                 1,
		"alloc 2, level Y2, call p/0 1, @cut Y2":                        1,
		"alloc 2, get_var Y1 A1, call p/0 0, @put_val Y1 A1":            1,
		"alloc 1, call p/0 1, @put_val Y1 A1":                           1,
		"alloc 0, call p/0 0, @put_val X1 A1":                           1,
		"alloc 0, body 0, @put_val X1 A1":                               2,
		"alloc 0, put_int 1 A9, call p/0 0, @put_val X9 A1":             1,
		"alloc 0, call p/1 0, @call p/1 0":                              1,
		"alloc 0, call p/1 0, dealloc, @exec p/1":                       1,
		"alloc 0, call p/0 0, dealloc, @alloc 0, dealloc, proceed":      0,
		"alloc 0, body 0, dealloc, @alloc 0, dealloc, proceed":          2,
		"alloc 0, call p/0 0, @neck, dealloc, proceed":                  0,
		"alloc 0, body 0, @neck, dealloc, proceed":                      2,
		"alloc 0, call p/0 0, dealloc, @neck, proceed":                  0,
		"alloc 64, get_var Y64 A1, call p/1 63, put_int 1 A1, @cut Y64": 1,
	} {
		ahead, behind, _ := strings.Cut(s, "@")
		want := len(read(t, strings.TrimSuffix(ahead, ", ")))
		l := read(t, strings.TrimSuffix(ahead+behind, ", "))
		if n, e := instr.Check(l, arity); e != api.ErrInstr || n != want {
			t.Error(s, "is wrong at", n, e)
		}
	}
}

// P16.2: an arity, and so much code, as may not be, in this order; and instructions that may not be.
func TestCheckRefuses(t *testing.T) {
	wrong := api.Instr{Op: api.InsNeck, N: 1}
	neck, proceed := api.Instr{Op: api.InsNeck}, api.Instr{Op: api.InsProceed}
	necks := func(n int) []api.Instr { return slices.Repeat([]api.Instr{neck}, n) }
	for name, l := range map[string]struct {
		l     []api.Instr
		arity int
		n     int
		e     api.Errno
	}{
		"arity -1":                        {[]api.Instr{proceed}, -1, 0, api.ErrArg},
		"arity 17":                        {[]api.Instr{proceed}, 17, 0, api.ErrArg},
		"the least arity":                 {[]api.Instr{proceed}, math.MinInt, 0, api.ErrArg},
		"the greatest arity":              {nil, math.MaxInt, 0, api.ErrArg},
		"arity 16":                        {[]api.Instr{proceed}, 16, 1, api.OK},
		"the arity ahead of the length":   {necks(5000), 17, 0, api.ErrArg},
		"4096 instructions":               {append(necks(4095), proceed), 0, 4096, api.OK},
		"4096 without an end":             {necks(4096), 0, 4096, api.ErrInstr},
		"4097 instructions":               {append(necks(4096), proceed), 0, 0, api.ErrLong},
		"100000 instructions":             {necks(100000), 0, 0, api.ErrLong},
		"the length ahead of what is bad": {append(necks(4096), wrong), 0, 0, api.ErrLong},
		"nothing":                         {nil, 0, 0, api.ErrInstr},
		"one that may not be":             {[]api.Instr{neck, wrong, proceed}, 0, 1, api.ErrInstr},
		"one at first":                    {[]api.Instr{wrong, proceed}, 0, 0, api.ErrInstr},
		"one behind the end":              {[]api.Instr{proceed, wrong}, 0, 1, api.ErrInstr},
		"the first of two":                {[]api.Instr{neck, {Op: api.InsExec, S: "p", N: 1}, wrong}, 0, 1, api.ErrInstr},
		"no operation":                    {[]api.Instr{{}}, 0, 0, api.ErrInstr},
		"an operation -1":                 {[]api.Instr{{Op: -1}}, 0, 0, api.ErrInstr},
		"an operation 31":                 {[]api.Instr{neck, {Op: 31}}, 0, 1, api.ErrInstr},
		"a great register":                {[]api.Instr{{Op: api.InsHere, V: 256}}, 0, 0, api.ErrInstr},
		"the least register":              {[]api.Instr{{Op: api.InsHere, V: math.MinInt}}, 0, 0, api.ErrInstr},
	} {
		if n, e := instr.Check(l.l, l.arity); n != l.n || e != l.e {
			t.Error(name, n, e)
		}
	}
}

// Rule R3: the code is not changed, and not kept.
func TestCheckKeeps(t *testing.T) {
	l := read(t, "alloc 1, get_var Y1 A1, call p/0 1, put_val Y1 A1, dealloc, exec q/1")
	before := fmt.Sprint(l)
	for range 2 {
		if n, e := instr.Check(l, 1); n != len(l) || e != api.OK {
			t.Error(n, e)
		}
	}
	if fmt.Sprint(l) != before {
		t.Error(l)
	}
}
