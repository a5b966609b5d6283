package token_test

import (
	"regexp"
	"slices"
	"strings"
	"testing"

	"elenchus/api"
	"elenchus/token"
)

// The grammar again, by other means: one expression for layout, one for each kind of token, the first of which that fits is it.

var (
	layout      = regexp.MustCompile(`(?s)^(?:[ \t\n\r]|%[^\n]*|/\*.*?\*/)*`)
	openComment = regexp.MustCompile(`^/\*`)
	ends        = regexp.MustCompile(`^(\.)(?:[ \t\n\r%]|$)`)
	names       = regexp.MustCompile(`^([a-z][a-zA-Z0-9_]*|[-+*/\\^<>=~:.?@#&$]+|[!;])`)
	variables   = regexp.MustCompile(`^([A-Z_][a-zA-Z0-9_]*)`)
	digits      = regexp.MustCompile(`^([0-9]+)`)
	puncts      = regexp.MustCompile(`^([][(){},|])`)
	quotes      = regexp.MustCompile(`^('(?:[^\x00-\x1f\x7f'\\]|''|\\[\\'nt]|\\x[0-9a-f][0-9a-f]?\\)*')(?:[^']|$)`)
	piece       = regexp.MustCompile(`(?s)''|\\x[0-9a-f]+\\|\\.|.`)
)

// meant answers what Scan is meant to answer of a short text.
func meant(text string, at int) (api.Token, int, api.Errno) {
	begin := at + len(layout.FindString(text[at:]))
	rest := text[begin:]
	if rest == "" {
		return api.Token{}, begin, api.ErrNone
	}
	if openComment.MatchString(rest) {
		return api.Token{}, begin, api.ErrToken
	}
	for _, k := range []struct {
		kind int
		form *regexp.Regexp
	}{{api.TokEnd, ends}, {api.TokAtom, names}, {api.TokVar, variables}, {api.TokInt, digits}, {api.TokPunct, puncts}, {api.TokQuoted, quotes}} {
		found := k.form.FindStringSubmatch(rest)
		if found == nil {
			continue
		}
		x := api.Token{Kind: k.kind, S: found[1], At: begin, Layout: begin > at}
		switch k.kind {
		case api.TokInt:
			x.S = ""
			for _, digit := range found[1] {
				x.N = 10*x.N + int(digit-'0')
			}
		case api.TokQuoted:
			x.S = read(found[1][1 : len(found[1])-1])
		}
		return x, begin + len(found[1]), api.OK
	}
	return api.Token{}, begin, api.ErrToken
}

// read answers the name that stands so between quotes.
func read(text string) string {
	return piece.ReplaceAllStringFunc(text, func(s string) string {
		switch {
		case s == `\n`:
			return "\n"
		case s == `\t`:
			return "\t"
		case strings.HasPrefix(s, `\x`):
			n := 0
			for _, digit := range s[2 : len(s)-1] {
				n = 16*n + strings.IndexRune("0123456789abcdef", digit)
			}
			return string([]byte{byte(n)})
		case s == "''", len(s) == 2 && s[0] == '\\':
			return s[1:]
		}
		return s
	})
}

// each calls a function with all texts of at most so many of the signs.
func each(signs []string, most int, text string, visit func(text string)) {
	visit(text)
	if most > 0 {
		for _, sign := range signs {
			each(signs, most-1, text+sign, visit)
		}
	}
}

// agrees checks what Scan answers of the text, from each place on, and what All answers.
func agrees(t *testing.T, text string) {
	t.Helper()
	for at := range len(text) + 1 {
		want, next, wrong := meant(text, at)
		if x, n, e := token.Scan([]byte(text), at); x != want || n != next || e != wrong {
			t.Fatalf("Scan(%q, %d) = %v, %d, %d, not %v, %d, %d", text, at, x, n, e, want, next, wrong)
		}
	}
	var want []api.Token
	at, wrong := 0, api.OK
	for wrong == api.OK {
		var x api.Token
		x, at, wrong = meant(text, at)
		if wrong == api.OK {
			want = append(want, x)
		}
	}
	if wrong == api.ErrNone {
		wrong = api.OK
	} else {
		want = nil
	}
	if l, n, e := token.All([]byte(text)); !slices.Equal(l, want) || n != at || e != wrong {
		t.Fatalf("All(%q) = %v, %d, %d, not %v, %d, %d", text, l, n, e, want, at, wrong)
	}
}

// P8.1, P8.2, P8.4: all short texts are divided as the grammar says, at every place, and the tokens of each lie one behind the other.
func TestAllShortTexts(t *testing.T) {
	each([]string{"a", "A", "0", "_", ".", "/", "*", "%", "'", "\\", "x", "\n", "!", "(", "\x80"}, 3, "", func(text string) { agrees(t, text) })
	each([]string{"/", "*", ".", "\n", "%", "a"}, 5, "", func(text string) { agrees(t, text) })
	each([]string{"'", "\\", "x", "4", "n", "\n"}, 5, "'", func(text string) { agrees(t, text) })
	for b := range 256 {
		for c := range 256 {
			agrees(t, string([]byte{byte(b), byte(c)}))
		}
	}
}

// P8.1, P8.2: so are longer ones.
func TestAnyTexts(t *testing.T) {
	pieces := []string{"foo", "X1", "_", " ", "\n", "\t", "\r", ".", ". ", "..", "/*", "*/", "%", "'", "''", "'a b'", `\n`, `\x41\`, `\`, "42", "007", "+", ":-", "-", ",", "|", "(", ")", "[", "]", "{", "}", "!", ";", "b", "'", "é", "a'"}
	s := source(5)
	for range 20000 {
		var text strings.Builder
		for range s.next(14) {
			text.WriteString(pieces[s.next(len(pieces))])
		}
		agrees(t, text.String())
	}
}
