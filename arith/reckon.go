package arith

import (
	"cmp"

	"elenchus/api"
	"elenchus/term"
)

// reckon answers what Eval does of a term that may be, which is not so deep that calls within calls would not do.
func reckon(t api.Term) (int, api.Term, bool) {
	switch {
	case t.Kind == api.KindInt:
		return t.N, api.Term{}, true
	case t.Kind == api.KindVar:
		return 0, Error(), false
	case !isOperation(t.S, len(t.L)):
		return 0, Type("evaluable", Indicator(t)), false
	}
	var args [2]int
	for i, arg := range t.L {
		n, ball, ok := reckon(arg)
		if !ok {
			return 0, ball, false
		}
		args[i] = n
	}
	return operate(t.S, len(t.L), args)
}

// isOperation tells whether there is an operation of that name and so many arguments.
func isOperation(name string, arity int) bool {
	switch name {
	case "-":
		return arity == 1 || arity == 2
	case "abs", "sign":
		return arity == 1
	case "+", "*", "//", "mod", "rem", "min", "max":
		return arity == 2
	}
	return false
}

// operate answers the result of an operation of so many arguments, or the ball that is thrown instead.
func operate(name string, arity int, args [2]int) (int, api.Term, bool) {
	var n int
	switch {
	case arity == 1:
		n = one(name, args[0])
	case divides(name) && args[1] == 0:
		return 0, wrong("zero"), false
	default:
		n = two(name, args[0], args[1])
	}
	if n < -api.MaxInt || n > api.MaxInt {
		return 0, wrong("over"), false
	}
	return n, api.Term{}, true
}

// wrong makes the ball of an operation that has no result.
func wrong(why string) api.Term {
	return Error(term.Comp("eval", term.Atom(why)))
}

// divides tells whether the operation has no result for a second argument of 0.
func divides(name string) bool {
	switch name {
	case "//", "mod", "rem":
		return true
	}
	return false
}

// one answers the result of an operation of one argument.
func one(name string, a int) int {
	switch name {
	case "abs":
		return max(a, -a)
	case "sign":
		return cmp.Compare(a, 0)
	}
	return -a
}

// two answers the result of an operation of two arguments, or any number beyond the integers if it is beyond them.
func two(name string, a, b int) int {
	switch name {
	case "+":
		return a + b
	case "-":
		return a - b
	case "*":
		return product(a, b)
	case "//":
		return a / b
	case "rem":
		return a % b
	case "mod":
		return modulo(a, b)
	case "min":
		return min(a, b)
	}
	return max(a, b)
}

// product answers the product of both, or a number beyond the integers if it is beyond them: it might not fit into an int.
func product(a, b int) int {
	if b != 0 && max(a, -a) > api.MaxInt/max(b, -b) {
		return api.MaxInt + 1
	}
	return a * b
}

// modulo answers what is left of the quotient towards the lesser number.
func modulo(a, b int) int {
	left := a % b
	if left != 0 && (left < 0) != (b < 0) {
		return left + b
	}
	return left
}

// relation answers what tells whether two numbers are so; there is nothing of another name.
func relation(op string) func(a, b int) bool {
	switch op {
	case "=:=":
		return func(a, b int) bool { return a == b }
	case "=\\=":
		return func(a, b int) bool { return a != b }
	case "<":
		return func(a, b int) bool { return a < b }
	case ">":
		return func(a, b int) bool { return a > b }
	case "=<":
		return func(a, b int) bool { return a <= b }
	case ">=":
		return func(a, b int) bool { return a >= b }
	}
	return nil
}
