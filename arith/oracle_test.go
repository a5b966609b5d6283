package arith_test

import (
	"math/big"
	"reflect"
	"testing"

	"elenchus/api"
	"elenchus/arith"
)

// Arithmetic again, by other means: an expression is laid out as steps, and these are done one by one with numbers of any size.

// step is a number that is put on the stack, an operation, or a ball.
type step struct {
	n     int
	name  string
	arity int
	ball  string
}

// steps answers an expression's steps, up to the first ball that stands in it.
func steps(t api.Term) []step {
	two := map[string]bool{"+": true, "-": true, "*": true, "//": true, "mod": true, "rem": true, "min": true, "max": true}
	one := map[string]bool{"-": true, "abs": true, "sign": true}
	switch {
	case t.Kind == api.KindInt:
		return []step{{n: t.N}}
	case t.Kind == api.KindVar:
		return []step{{ball: canon(c("error", a("inst")))}}
	case len(t.L) == 2 && two[t.S], len(t.L) == 1 && one[t.S]:
		var all []step
		for _, x := range t.L {
			all = append(all, steps(x)...)
		}
		return append(all, step{name: t.S, arity: len(t.L)})
	}
	return []step{{ball: canon(c("error", c("type", a("evaluable"), c("/", a(t.S), i(len(t.L))))))}}
}

// did answers the result of an operation, or the ball.
func did(name string, args []*big.Int) (*big.Int, string) {
	r, x := new(big.Int), args[0]
	if len(args) == 1 {
		switch name {
		case "-":
			r.Neg(x)
		case "abs":
			r.Abs(x)
		case "sign":
			r.SetInt64(int64(x.Sign()))
		}
		return r, ""
	}
	y := args[1]
	if y.Sign() == 0 && (name == "//" || name == "mod" || name == "rem") {
		return nil, "error(eval(zero))"
	}
	switch name {
	case "+":
		r.Add(x, y)
	case "-":
		r.Sub(x, y)
	case "*":
		r.Mul(x, y)
	case "//":
		r.Quo(x, y)
	case "rem":
		r.Rem(x, y)
	case "mod":
		// What is left of the quotient towards the lesser number, which is that of the other signs, if it is rounded towards the greater one.
		q, left := new(big.Int).QuoRem(x, y, new(big.Int))
		if left.Sign() != 0 && x.Sign() != y.Sign() {
			q.Sub(q, big.NewInt(1))
		}
		r.Sub(x, q.Mul(q, y))
	case "min", "max":
		r.Set(x)
		if (x.Cmp(y) > 0) == (name == "min") {
			r.Set(y)
		}
	}
	if r.CmpAbs(big.NewInt(api.MaxInt)) > 0 {
		return nil, "error(eval(over))"
	}
	return r, ""
}

// meant answers what a term comes to, as a text.
func meant(t api.Term) string {
	var stack []*big.Int
	for _, s := range steps(t) {
		switch {
		case s.ball != "":
			return s.ball
		case s.name == "":
			stack = append(stack, big.NewInt(int64(s.n)))
		default:
			below := len(stack) - s.arity
			r, ball := did(s.name, stack[below:])
			if ball != "" {
				return ball
			}
			stack = append(stack[:below], r)
		}
	}
	return stack[0].String()
}

// edges are numbers at which something might go wrong.
func edges() []int {
	var all []int
	for _, n := range []int{0, 1, 2, 3, 7, 10, 6361, 94906265, 94906266, 94906267, 1 << 26, 1 << 27, 1<<31 - 1, 1 << 31, 1 << 32, 1416003655831, 1 << 52, 1<<52 + 1, api.MaxInt / 3, api.MaxInt / 2, api.MaxInt/2 + 1, api.MaxInt - 1, api.MaxInt} {
		all = append(all, n, -n)
	}
	return all
}

// P13.1, P13.3: all operations of numbers at the edges; a quotient, times its divisor, and what is left, is the number again.
func TestAllEdges(t *testing.T) {
	for _, x := range edges() {
		for _, name := range []string{"-", "abs", "sign"} {
			y := c(name, i(x))
			evals(t, y, meant(y))
		}
		for _, y := range edges() {
			for _, name := range []string{"+", "-", "*", "//", "mod", "rem", "min", "max"} {
				z := c(name, i(x), i(y))
				evals(t, z, meant(z))
			}
			if y == 0 {
				continue
			}
			again := c("+", c("*", c("//", i(x), i(y)), i(y)), c("rem", i(x), i(y)))
			evals(t, again, canon(i(x)))
			left, _, _ := arith.Eval(c("mod", i(x), i(y)))
			if (x-left)%y != 0 || left != 0 && (left < 0) != (y < 0) || max(left, -left) >= max(y, -y) {
				t.Errorf("%d mod %d = %d", x, y, left)
			}
		}
	}
}

// source is numbers in no order, the same ones each time.
type source uint64

// next answers a number from 0 to n - 1.
func (s *source) next(n int) int {
	*s = *s*6364136223846793005 + 1442695040888963407
	return int(uint64(*s)>>33) % n
}

// term answers some term of at most so many levels, most often an expression.
func (s *source) term(levels int) api.Term {
	all := edges()
	switch kind := s.next(40); {
	case kind == 0:
		return v(s.next(3))
	case kind == 1:
		return a([]string{"a", "-", "abs", "[]"}[s.next(4)])
	case levels == 1 || kind < 8:
		return i(s.next(9) - 4)
	case kind < 11:
		return i(all[s.next(len(all))])
	case kind == 11:
		return c([]string{"f", "+", "sign", "/"}[s.next(4)], s.term(levels-1), s.term(levels-1), s.term(levels-1))
	case kind < 18:
		return c([]string{"-", "abs", "sign", "-", "abs", "sign", "-", "max"}[s.next(8)], s.term(levels-1))
	}
	return c([]string{"+", "-", "*", "//", "mod", "rem", "min", "max"}[s.next(8)], s.term(levels-1), s.term(levels-1))
}

// P13.1, P13.2: any terms come to what is meant, alone and held against each other.
func TestAnyTerms(t *testing.T) {
	r := source(4)
	numbers := 0
	for range 60000 {
		x, y := r.term(7), r.term(4)
		before := text(x) + text(y)
		evals(t, x, meant(x))
		n, ball, ok := arith.Eval(x)
		m, other, too := arith.Eval(y)
		holds, got, both := arith.Compare("<", x, y)
		switch {
		case !ok && !reflect.DeepEqual(got, ball), ok && !too && !reflect.DeepEqual(got, other), both != (ok && too), holds != (both && n < m):
			t.Fatalf("%s < %s: %v, %s, %v", text(x), text(y), holds, canon(got), both)
		}
		if ok {
			numbers++
		}
		if text(x)+text(y) != before {
			t.Fatal("changed", before)
		}
	}
	if numbers < 20000 {
		t.Error("so few came to a number:", numbers)
	}
}
