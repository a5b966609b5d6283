package instr

import (
	"strconv"
	"strings"

	"elenchus/api"
	"elenchus/token"
)

// written answers the text of an instruction that may be.
func written(i api.Instr) string {
	f := fieldsOf(i.Op)
	words := []string{Name(i.Op)}
	if f.has(readV | writtenV) {
		words = append(words, register(i.V))
	}
	switch number := strconv.Itoa(i.N); {
	case f.has(arityN | someN):
		words = append(words, token.Quote(i.S)+"/"+number)
	case f.has(nameS):
		words = append(words, token.Quote(i.S))
	case f.has(integerN | slotsN):
		words = append(words, number)
	}
	switch number := strconv.Itoa(i.A); {
	case f.has(readA | writtenA):
		words = append(words, "A"+number)
	case f.has(livingA):
		words = append(words, number)
	}
	return strings.Join(words, " ")
}

// register answers how a register is written.
func register(v int) string {
	if v < 0 {
		return "Y" + strconv.Itoa(-v)
	}
	return "X" + strconv.Itoa(v)
}

// read answers the instruction of a text, if it is one's; of other texts anything.
func read(s string) api.Instr {
	first, rest, _ := strings.Cut(s, " ")
	i := api.Instr{Op: operation(first)}
	f := fieldsOf(i.Op)
	word := ""
	if f.has(readA | writtenA | livingA) {
		rest, word = parted(rest, " ")
		i.A = numberOf(strings.TrimPrefix(word, "A"))
	}
	if f.has(arityN | someN) {
		rest, word = parted(rest, "/")
		i.N = numberOf(word)
	}
	switch {
	case f.has(readV | writtenV):
		i.V = registerOf(rest)
	case f.has(nameS):
		i.S = nameOf(rest)
	case f.has(integerN | slotsN):
		i.N = numberOf(rest)
	}
	return i
}

// parted answers what stands ahead of the last one of these marks, and what stands behind it.
func parted(s, mark string) (string, string) {
	// Such marks may stand within a name, but not behind it.
	at := strings.LastIndex(s, mark)
	if at < 0 {
		return "", s
	}
	return s[:at], s[at+len(mark):]
}

// registerOf answers the register that is so written, if one is; else anything.
func registerOf(s string) int {
	if slot, is := strings.CutPrefix(s, "Y"); is {
		return -numberOf(slot)
	}
	return numberOf(strings.TrimPrefix(s, "X"))
}

// numberOf answers the number that is so written, if one is; else anything.
func numberOf(s string) int {
	n, _ := strconv.Atoi(s)
	return n
}

// nameOf answers the name that is so written, if one is; else anything.
func nameOf(s string) string {
	// A name that may stand as it is need not be one token.
	if token.Plain(s) {
		return s
	}
	t, _, _ := token.Scan([]byte(s), 0)
	return t.S
}
