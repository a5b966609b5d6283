package instr_test

import (
	"math"

	"strings"
	"testing"

	"elenchus/api"
	"elenchus/instr"
)

// all are the operations' names, in the order of their numbers, from 1 on.
func all() []string {
	return strings.Fields(`get_var get_val get_atom get_int get_str uni_var uni_val uni_atom uni_int
		put_var put_val put_atom put_int put_str set_var set_val set_atom set_int
		alloc dealloc call exec body goal proceed level here neck cut fail`)
}

// P16.1: the name of each operation, and of none other.
func TestName(t *testing.T) {
	names := all()
	if len(names) != api.InsFail {
		t.Fatal(len(names))
	}
	for at, want := range names {
		if got := instr.Name(at + 1); got != want {
			t.Error(at+1, got, want)
		}
	}
	for _, op := range []int{0, -1, api.InsFail + 1, 100, math.MinInt, math.MaxInt} {
		if got := instr.Name(op); got != "" {
			t.Error(op, got)
		}
	}
	for op, want := range map[int]string{api.InsGetVar: "get_var", api.InsUniVar: "uni_var", api.InsPutVar: "put_var", api.InsSetVar: "set_var", api.InsAlloc: "alloc", api.InsBody: "body", api.InsGoal: "goal", api.InsLevel: "level", api.InsNeck: "neck", api.InsCut: "cut", api.InsFail: "fail"} {
		if got := instr.Name(op); got != want {
			t.Error(op, got, want)
		}
	}
}

// texts are instructions and their texts.
func texts() map[string]api.Instr {
	long := strings.Repeat("a", api.MaxName)
	odd := strings.Repeat("\x1f", api.MaxName)
	return map[string]api.Instr{
		"get_var X3 A1":     {Op: api.InsGetVar, V: 3, A: 1},
		"get_var X255 A255": {Op: api.InsGetVar, V: 255, A: 255},
		"get_var Y64 A1":    {Op: api.InsGetVar, V: -64, A: 1},
		"get_val X10 A20":   {Op: api.InsGetVal, V: 10, A: 20},
		"put_var X1 A1":     {Op: api.InsPutVar, V: 1, A: 1},
		"put_val Y2 A1":     {Op: api.InsPutVal, V: -2, A: 1},

		"get_atom foo A1":              {Op: api.InsGetAtom, S: "foo", A: 1},
		"put_atom 'a b' A2":            {Op: api.InsPutAtom, S: "a b", A: 2},
		"put_atom ' ' A2":              {Op: api.InsPutAtom, S: " ", A: 2},
		"put_atom ' A1' A2":            {Op: api.InsPutAtom, S: " A1", A: 2},
		"put_atom '\\' A1' A2":         {Op: api.InsPutAtom, S: "' A1", A: 2},
		"get_atom '' A1":               {Op: api.InsGetAtom, A: 1},
		"get_atom [] A1":               {Op: api.InsGetAtom, S: "[]", A: 1},
		"get_atom {} A1":               {Op: api.InsGetAtom, S: "{}", A: 1},
		"get_atom '[' A1":              {Op: api.InsGetAtom, S: "[", A: 1},
		"get_atom '.' A1":              {Op: api.InsGetAtom, S: ".", A: 1},
		"get_atom ; A1":                {Op: api.InsGetAtom, S: ";", A: 1},
		"get_atom 'X' A1":              {Op: api.InsGetAtom, S: "X", A: 1},
		"get_atom '\\n\\t\\x0\\' A1":   {Op: api.InsGetAtom, S: "\n\t\x00", A: 1},
		"get_atom '\xff\x80' A1":       {Op: api.InsGetAtom, S: "\xff\x80", A: 1},
		"get_atom \\ A1":               {Op: api.InsGetAtom, S: "\\", A: 1},
		"uni_atom foo":                 {Op: api.InsUniAtom, S: "foo"},
		"set_atom 'foo bar A1'":        {Op: api.InsSetAtom, S: "foo bar A1"},
		"set_atom " + long:             {Op: api.InsSetAtom, S: long},
		"uni_atom '" + unit(odd) + "'": {Op: api.InsUniAtom, S: odd},

		"get_int -5 A1":               {Op: api.InsGetInt, N: -5, A: 1},
		"put_int 0 A255":              {Op: api.InsPutInt, A: 255},
		"put_int 9007199254740991 A9": {Op: api.InsPutInt, N: api.MaxInt, A: 9},
		"uni_int 7":                   {Op: api.InsUniInt, N: 7},
		"set_int -9007199254740991":   {Op: api.InsSetInt, N: -api.MaxInt},

		"get_str f/2 A1":     {Op: api.InsGetStr, S: "f", N: 2, A: 1},
		"put_str f/1 A1":     {Op: api.InsPutStr, S: "f", N: 1, A: 1},
		"put_str 'F'/16 A1":  {Op: api.InsPutStr, S: "F", N: 16, A: 1},
		"get_str '.'/2 A1":   {Op: api.InsGetStr, S: ".", N: 2, A: 1},
		"get_str //2 A3":     {Op: api.InsGetStr, S: "/", N: 2, A: 3},
		"get_str ///2 A3":    {Op: api.InsGetStr, S: "//", N: 2, A: 3},
		"get_str '/*'/2 A3":  {Op: api.InsGetStr, S: "/*", N: 2, A: 3},
		"get_str */*/2 A3":   {Op: api.InsGetStr, S: "*/*", N: 2, A: 3},
		"get_str 'a/1'/2 A3": {Op: api.InsGetStr, S: "a/1", N: 2, A: 3},
		"get_str ''/2 A3":    {Op: api.InsGetStr, S: "", N: 2, A: 3},

		"uni_var X3": {Op: api.InsUniVar, V: 3},
		"uni_val Y3": {Op: api.InsUniVal, V: -3},
		"set_var Y1": {Op: api.InsSetVar, V: -1},
		"set_val X1": {Op: api.InsSetVal, V: 1},
		"level Y1":   {Op: api.InsLevel, V: -1},
		"level X1":   {Op: api.InsLevel, V: 1},
		"here X2":    {Op: api.InsHere, V: 2},
		"cut Y1":     {Op: api.InsCut, V: -1},
		"cut X255":   {Op: api.InsCut, V: 255},

		"alloc 3":          {Op: api.InsAlloc, N: 3},
		"alloc 0":          {Op: api.InsAlloc},
		"alloc 64":         {Op: api.InsAlloc, N: 64},
		"call p/2 1":       {Op: api.InsCall, S: "p", N: 2, A: 1},
		"call p/0 0":       {Op: api.InsCall, S: "p"},
		"call 'p 0'/16 64": {Op: api.InsCall, S: "p 0", N: 16, A: 64},
		"call =../2 1":     {Op: api.InsCall, S: "=..", N: 2, A: 1},
		"exec p/2":         {Op: api.InsExec, S: "p", N: 2},
		"exec 'a/b'/0":     {Op: api.InsExec, S: "a/b"},
		"exec //0":         {Op: api.InsExec, S: "/"},
		"body 1":           {Op: api.InsBody, A: 1},
		"body 0":           {Op: api.InsBody},
		"body 64":          {Op: api.InsBody, A: 64},
		"dealloc":          {Op: api.InsDealloc},
		"goal":             {Op: api.InsGoal},
		"proceed":          {Op: api.InsProceed},
		"neck":             {Op: api.InsNeck},
		"fail":             {Op: api.InsFail},
	}
}

// unit answers 64 times how a byte 31 is written.
func unit(s string) string {
	return strings.Repeat("\\x1f\\", len(s))
}

// P16.1, P16.3: texts, and back.
func TestTextAndParse(t *testing.T) {
	for want, i := range texts() {
		if got := instr.Text(i); got != want {
			t.Errorf("%v is %s, not %s", i, got, want)
		}
		if !instr.May(i) {
			t.Error(want, "may not be")
		}
		if got, e := instr.Parse(want); e != api.OK || got != i {
			t.Error(want, "is read as", got, e)
		}
	}
}

// ranges answers the ranges of N, V (on either side of 0) and A of each operation, as the document's table says, and whether it has a name.
func ranges(op int) (named bool, n, v, a [2]int) {
	arg, reg := [2]int{1, 255}, [2]int{-64, 255}
	switch instr.Name(op) {
	case "get_var", "get_val", "put_var", "put_val":
		v, a = reg, arg
	case "get_atom", "put_atom":
		named, a = true, arg
	case "get_int", "put_int":
		n, a = [2]int{-api.MaxInt, api.MaxInt}, arg
	case "get_str", "put_str":
		named, n, a = true, [2]int{1, 16}, arg
	case "uni_var", "uni_val", "set_var", "set_val", "level", "here", "cut":
		v = reg
	case "uni_atom", "set_atom":
		named = true
	case "uni_int", "set_int":
		n = [2]int{-api.MaxInt, api.MaxInt}
	case "alloc":
		n = [2]int{0, 64}
	case "call":
		named, n, a = true, [2]int{0, 16}, [2]int{0, 64}
	case "exec":
		named, n = true, [2]int{0, 16}
	case "body":
		a = [2]int{0, 64}
	}
	return named, n, v, a
}

// P16.1: may an instruction be so? Each operation, and others, with each field at its edges; what may not be has no text.
func TestMay(t *testing.T) {
	in := func(r [2]int, x int) bool { return r[0] <= x && x <= r[1] }
	names := []string{"", "p", strings.Repeat("n", 64), strings.Repeat("n", 65)}
	numbers := []int{math.MinInt, -api.MaxInt - 1, -api.MaxInt, -1, 0, 1, 16, 17, 64, 65, api.MaxInt, api.MaxInt + 1, math.MaxInt}
	registers := []int{math.MinInt, -256, -65, -64, -1, 0, 1, 64, 65, 255, 256, math.MaxInt}
	arguments := []int{math.MinInt, -64, -1, 0, 1, 64, 65, 255, 256, math.MaxInt}
	for op := -1; op <= api.InsFail+1; op++ {
		isOp := 1 <= op && op <= api.InsFail
		named, rn, rv, ra := ranges(op)
		for _, s := range names {
			mayS := s == "" || named && len(s) <= 64
			for _, n := range numbers {
				for _, v := range registers {
					// The register 0 is none.
					mayV := in(rv, v) && (v != 0) == (rv[1] > 0)
					for _, a := range arguments {
						i := api.Instr{Op: op, S: s, N: n, V: v, A: a}
						want := isOp && mayS && in(rn, n) && mayV && in(ra, a)
						if got := instr.May(i); got != want {
							t.Fatal(i, got, want)
						}
						if text := instr.Text(i); (text != "") != want {
							t.Fatal(i, text)
						}
					}
				}
			}
		}
	}
}

// P16.1: what is no instruction's text.
func TestParseRefuses(t *testing.T) {
	long := strings.Repeat("a", 65)
	for _, s := range []string{
		"", " ", "foo", "get", "get_vars X1 A1", "GET_VAR X1 A1", "get_var", "get_var ", "get_var X1", "get_var X1 ", "get_var A1", "get_var  A1",
		"get_var X0 A1", "get_var X256 A1", "get_var Y0 A1", "get_var Y65 A1", "get_var X-1 A1", "get_var Y-1 A1", "get_var X+1 A1", "get_var X01 A1",
		"get_var 1 A1", "get_var -1 A1", "get_var X A1", "get_var Z1 A1", "get_var x1 A1", "get_var XX1 A1", "get_var YX1 A1", "get_var XY1 A1", "get_var X1 1", "get_var X1 a1", "get_var X1 AA1",
		"get_var X1 A", "get_var X1 A0", "get_var X1 A256", "get_var X1 A01", "get_var X1 A-1", "get_var X1 X1", "get_var X1 Y1", "get_var A1 X1", "get_var X1, A1",
		"get_var X1  A1", " get_var X1 A1", "get_var X1 A1 ", "get_var X1 A1\n", "get_var\tX1 A1", "get_var X1 A1 A1", "get_var X1 X1 A1", "get_var X99999999999999999999 A1", "get_var Y99999999999999999999 A1", "get_var X1 A99999999999999999999",
		"get_atom A1", "get_atom  A1", "get_atom foo", "get_atom 'foo' A1", "get_atom Foo A1", "get_atom a b A1", "get_atom 'a A1", "get_atom '[]' A1", "get_atom . A1", "get_atom /* A1", "get_atom 'a''b' A1", "get_atom '\\x41\\' A1", "get_atom '\\x0a\\' A1", "get_atom '\n' A1", "get_atom ( A1", "get_atom , A1", "get_atom 1 A1", "get_atom _ A1", "get_atom \xff A1", "get_atom 'a' 'b' A1", "get_atom " + long + " A1", "get_atom 'B" + long + "' A1",
		"uni_atom", "uni_atom ", "uni_atom foo ", "uni_atom  foo", "uni_atom foo A1", "uni_atom foo.", "uni_atom foo/1", "uni_atom f%", "uni_atom f/*c*/",
		"get_int A1", "get_int 1", "get_int +1 A1", "get_int -0 A1", "get_int 01 A1", "get_int - 1 A1", "get_int 1.0 A1", "get_int 1_0 A1", "get_int 0x1 A1", "get_int 9007199254740992 A1", "get_int -9007199254740992 A1", "get_int 99999999999999999999999 A1", "get_int a A1",
		"uni_int", "uni_int ", "uni_int x", "uni_int 7 A1", "uni_int 9223372036854775808",
		"get_str f A1", "get_str f/0 A1", "get_str f/17 A1", "get_str f/-1 A1", "get_str f/01 A1", "get_str f/ A1", "get_str /2 A1", "get_str f/+2 A1", "get_str f /2 A1", "get_str f/ 2 A1", "get_str f/2", "get_str f/2/2 A1", "get_str '/'/2 A1", "get_str 'f/2 A1", "get_str 'f/2' A1", "get_str 2 A1",
		"uni_var", "uni_var A1", "uni_var X1 A1", "uni_var 1", "level", "level Y", "cut", "cut Y65", "neck Y1",
		"alloc", "alloc 65", "alloc -1", "alloc +1", "alloc 00", "alloc X1", "alloc 1 1",
		"call p/2", "call p 1", "call p/17 1", "call p/-1 1", "call p/2 65", "call p/2 -1", "call p/2 A1", "call p/2 01", "call 1", "call /2 1", "call p/2 1 1",
		"exec p", "exec p/17", "exec p/2 1", "exec P/2", "exec /2",
		"body", "body ", "body A1", "body 65", "body -1", "body 1 1", "body x", "body  1",
		"dealloc ", "dealloc 1", "goal 1", "proceed A1", "fail fail", "neck\x00",
		strings.Repeat("a", 1<<17), "uni_atom " + strings.Repeat("a", 1<<17), "uni_atom '" + strings.Repeat("\\", 1<<17),
	} {
		if i, e := instr.Parse(s); e != api.ErrInstr || i != (api.Instr{}) {
			t.Errorf("%.40q is read as %v, %v", s, i, e)
		}
	}
}
