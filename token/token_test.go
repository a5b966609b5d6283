package token_test

import (
	"slices"
	"strings"
	"testing"

	"elenchus/api"
	"elenchus/token"
)

// The tokens that tests want; where they stand, and whether layout is ahead, is told by those that check them.

func atom(s string) api.Token     { return api.Token{Kind: api.TokAtom, S: s} }
func quoted(s string) api.Token   { return api.Token{Kind: api.TokQuoted, S: s} }
func variable(s string) api.Token { return api.Token{Kind: api.TokVar, S: s} }
func integer(n int) api.Token     { return api.Token{Kind: api.TokInt, N: n} }
func punct(s string) api.Token    { return api.Token{Kind: api.TokPunct, S: s} }
func end() api.Token              { return api.Token{Kind: api.TokEnd, S: "."} }

// placed answers the token at that place.
func placed(x api.Token, at int, layout bool) api.Token {
	x.At, x.Layout = at, layout
	return x
}

// scans checks all that Scan answers.
func scans(t *testing.T, text string, at int, want api.Token, next int, wrong api.Errno) {
	t.Helper()
	x, n, e := token.Scan([]byte(text), at)
	if x != want || n != next || e != wrong {
		t.Errorf("Scan(%.80q, %d) = %.80v, %d, %d, not %.80v, %d, %d", text, at, x, n, e, want, next, wrong)
	}
}

// begins checks that the text begins with that token, of so many bytes.
func begins(t *testing.T, text string, want api.Token, long int) {
	t.Helper()
	scans(t, text, 0, want, long, api.OK)
	const ahead = "\n %.\n/*a*/ "
	scans(t, ahead+text, 0, placed(want, len(ahead), true), len(ahead)+long, api.OK)
	scans(t, ahead+text, len(ahead), placed(want, len(ahead), false), len(ahead)+long, api.OK)
	scans(t, "a \n "+text, 1, placed(want, 4, true), 4+long, api.OK)
}

// refuses checks that the text begins with what is no token.
func refuses(t *testing.T, text string, wrong api.Errno) {
	t.Helper()
	scans(t, text, 0, api.Token{}, 0, wrong)
	scans(t, "a \n "+text, 1, api.Token{}, 4, wrong)
	if l, n, e := token.All([]byte("a, " + text)); len(l) != 0 || n != 3 || e != wrong {
		t.Errorf("All(%.80q) = %d tokens, %d, %d, not %d", "a, "+text, len(l), n, e, wrong)
	}
}

// is checks that the text is just these tokens, each at its place and with layout ahead or not, as laid tells sign by sign: a figure begins the token of that number; a blank is layout; all else goes on.
func is(t *testing.T, text, laid string, want ...api.Token) {
	t.Helper()
	for at, sign := range []byte(laid) {
		if n := strings.IndexByte("0123456789abcdefghij", sign); n >= 0 {
			want[n] = placed(want[n], at, at > 0 && laid[at-1] == ' ')
		}
	}
	l, n, e := token.All([]byte(text))
	if !slices.Equal(l, want) || n != len(text) || e != api.OK {
		t.Errorf("All(%.80q) = %v, %d, %d, not %v", text, l, n, e, want)
	}
}

// P8.1: texts of as many bytes as there may be, and of one more.
func TestLongText(t *testing.T) {
	const most = 65536
	fits := strings.Repeat(" ", most-1) + "a"
	scans(t, fits, 0, placed(atom("a"), most-1, true), most, api.OK)
	scans(t, fits, most-1, placed(atom("a"), most-1, false), most, api.OK)
	scans(t, fits, most, api.Token{}, most, api.ErrNone)
	scans(t, fits, most+1, api.Token{}, 0, api.ErrArg)
	for _, b := range []string{fits + " ", " " + fits, strings.Repeat("'", most+1), strings.Repeat("a ", most)} {
		// That the text is too long is told ahead of all else.
		for _, at := range []int{-1, 0, 1, most, most + 1, len(b) + 1} {
			scans(t, b, at, api.Token{}, 0, api.ErrLong)
		}
		if l, n, e := token.All([]byte(b)); len(l) != 0 || n != 0 || e != api.ErrLong {
			t.Error("All:", len(l), n, e)
		}
	}
	if l, n, e := token.All([]byte(strings.Repeat("a ", most/2))); len(l) != most/2 || n != most || e != api.OK {
		t.Error("All:", len(l), n, e)
	}
	if l, n, e := token.All([]byte(strings.Repeat("(", most))); len(l) != most || n != most || e != api.OK {
		t.Error("All:", len(l), n, e)
	}
}

// P8.1: places from which may be looked, and such as may not be.
func TestPlace(t *testing.T) {
	for _, text := range []string{"", "a", "a b", "'", "/*", "\x00"} {
		for _, at := range []int{-1 << 63, -2, -1, len(text) + 1, len(text) + 2, 1<<63 - 1} {
			scans(t, text, at, api.Token{}, 0, api.ErrArg)
		}
		scans(t, text, len(text), api.Token{}, len(text), api.ErrNone)
	}
	if x, n, e := token.Scan(nil, 0); x != (api.Token{}) || n != 0 || e != api.ErrNone {
		t.Error(x, n, e)
	}
	// What is ahead of the place does not count.
	scans(t, "abc", 1, placed(atom("bc"), 1, false), 3, api.OK)
	scans(t, "Abc", 1, placed(atom("bc"), 1, false), 3, api.OK)
	scans(t, "1.5", 1, placed(atom("."), 1, false), 2, api.OK)
	scans(t, "+.", 1, placed(end(), 1, false), 2, api.OK)
	scans(t, "+/* */a", 1, placed(atom("a"), 6, true), 7, api.OK)
	scans(t, "/* */a", 1, placed(atom("*"), 1, false), 2, api.OK)
	scans(t, "/* */a", 3, placed(atom("*/"), 3, false), 5, api.OK)
	scans(t, "% a", 1, placed(atom("a"), 2, true), 3, api.OK)
	scans(t, "'a'", 1, placed(atom("a"), 1, false), 2, api.OK)
	scans(t, "'a'", 2, api.Token{}, 2, api.ErrToken)
}

// P8.1: layout of each kind, alone, ahead of a token and between two.
func TestLayout(t *testing.T) {
	for _, layout := range []string{" ", "\t", "\n", "\r", " \t\r\n ", "%\n", "% a . 'b /* \n", "%\r\x00\xff\n", "%%\n%\n", "/**/", "/***/", "/* */", "/*/*/", "/* * / ** /* % ' \n\x00\xff */", "/**//**/", "/* */ % */\n /* % */"} {
		n := len(layout)
		scans(t, layout, 0, api.Token{}, n, api.ErrNone)
		scans(t, layout+"a", 0, placed(atom("a"), n, true), n+1, api.OK)
		scans(t, layout+".", 0, placed(end(), n, true), n+1, api.OK)
		scans(t, "a"+layout+"b", 0, atom("a"), 1, api.OK)
		scans(t, "a"+layout+"b", 1, placed(atom("b"), n+1, true), n+2, api.OK)
		scans(t, "a"+layout, 1, api.Token{}, n+1, api.ErrNone)
		is(t, layout, "")
		is(t, "a"+layout+"B"+layout, "0"+strings.Repeat(" ", n)+"1", atom("a"), variable("B"))
	}
	// A comment up to the line's end may end with the text; its end is a byte 10 alone.
	for _, comment := range []string{"%", "% a", "%\r", "%\ra", "%/*", "% */", "\n%", "%\n%a", "/*%*/%"} {
		scans(t, comment, 0, api.Token{}, len(comment), api.ErrNone)
		is(t, "a"+comment, "0", atom("a"))
	}
	is(t, "", "")
	scans(t, "%a\nb", 0, placed(atom("b"), 3, true), 4, api.OK)
	scans(t, "%a\n\nb", 0, placed(atom("b"), 4, true), 5, api.OK)
	scans(t, "/*a*/b/*c*/", 0, placed(atom("b"), 5, true), 6, api.OK)
	// Other bytes that show nothing are no layout.
	for _, b := range []string{"\x00", "\x01", "\b", "\v", "\f", "\x0e", "\x1c", "\x1f", "\x7f", "\x85", "\xa0", "\u00a0", "\ufeff"} {
		refuses(t, b, api.ErrToken)
	}
}

// P8.1: comments that have no end.
func TestOpenComment(t *testing.T) {
	for _, comment := range []string{"/*", "/*/", "/* ", "/**", "/* *", "/***", "/* /", "/* * /", "/* a. \n b. %", "/*/*", "/*\n%*\n/"} {
		refuses(t, comment, api.ErrToken)
		scans(t, "% \n/**/ "+comment, 0, api.Token{}, 8, api.ErrToken)
		scans(t, "/**/"+comment, 0, api.Token{}, 4, api.ErrToken)
	}
	if _, n, e := token.Scan([]byte("/*"+strings.Repeat("*", api.MaxSource-2)), 0); n != 0 || e != api.ErrToken {
		t.Error(n, e)
	}
	scans(t, "/* */ */", 0, placed(atom("*/"), 6, true), 8, api.OK)
}

// P8.1: a point at a clause's end, and others.
func TestPoint(t *testing.T) {
	for _, behind := range []string{"", " ", "\t", "\n", "\r", "%", " a", "\na", "%a", "\t.", "% /*"} {
		begins(t, "."+behind, end(), 1)
		is(t, "a."+behind[:min(len(behind), 1)], "01", atom("a"), end())
		is(t, "7."+behind[:min(len(behind), 1)], "01", integer(7), end())
		is(t, "X."+behind[:min(len(behind), 1)], "01", variable("X"), end())
		is(t, "'a'."+behind[:min(len(behind), 1)], "0..1", quoted("a"), end())
		is(t, ")."+behind[:min(len(behind), 1)], "01", punct(")"), end())
	}
	for _, behind := range []string{"a", "A", "_", "0", "(", ")", "[", "]", "{", "}", ",", "|", "!", ";", "'", "\"", "\x00", "\v", "\x1f", "\x7f", "\x80", "\xff", "é"} {
		begins(t, "."+behind, atom("."), 1)
		begins(t, "."+behind+".", atom("."), 1)
	}
	for _, signs := range []string{"..", "...", ".+", ".=.", "./*", "./*a*/", "./", "=.", "=..", ".*/", "+."} {
		row := strings.TrimSuffix(signs, "a*/")
		for _, behind := range []string{"", " ", "\n", "%", "a", "("} {
			begins(t, row+behind, atom(row), len(row))
		}
	}
	is(t, "a. b.\nc .%d.\n.", "01 23 4 5    6", atom("a"), end(), atom("b"), end(), atom("c"), end(), end())
	is(t, "a.b", "012", atom("a"), atom("."), atom("b"))
	is(t, "1.5.", "0123", integer(1), atom("."), integer(5), end())
	is(t, "X=.. .", "01.. 2", variable("X"), atom("=.."), end())
	is(t, "!.;.", "0123", atom("!"), atom("."), atom(";"), end())
}

// P8.1: names of letters, of signs, and such as stand alone.
func TestAtoms(t *testing.T) {
	for _, name := range []string{"a", "z", "m", "aA", "aZ", "az", "a0", "a9", "a_", "foo", "fooBar_09x", "a__"} {
		for _, behind := range []string{"", " ", "(", "-", "'", "!", ".", "%", "\x80", "@", "[", "`", "{", "/", ":", "é"} {
			begins(t, name+behind, atom(name), len(name))
		}
	}
	const signs = "+-*/\\^<>=~:.?@#&$"
	for _, sign := range strings.Split(signs, "") {
		for _, behind := range []string{"a", "A", "0", "(", ",", "|", "!", ";", "'", "\"", "`"} {
			begins(t, sign+behind, atom(sign), 1)
		}
		// A second sign belongs to the row, whichever it is.
		for _, other := range strings.Split(signs, "") {
			if sign+other != "/*" {
				begins(t, sign+other+" ", atom(sign+other), 2)
				begins(t, sign+other+"a", atom(sign+other), 2)
			}
		}
		begins(t, "*"+sign+" ", atom("*"+sign), 2)
	}
	// Within a row of signs no comment begins.
	for _, row := range []string{"+/*", "//*", "*/*", "=/*/", "-/**/", signs, ":-", "-->", "\\+", "@=<", "/+*", "*/"} {
		begins(t, row, atom(row), len(row))
		begins(t, row+" a*/", atom(row), len(row))
		begins(t, row+"%", atom(row), len(row))
	}
	for _, alone := range []string{"!", ";"} {
		for _, behind := range []string{"", "!", ";", "a", "+", ".", " ", "(", ","} {
			begins(t, alone+behind, atom(alone), 1)
		}
	}
}

// P8.1: variables.
func TestVariables(t *testing.T) {
	for _, name := range []string{"A", "Z", "M", "_", "__", "_a", "_A", "_0", "Xa", "XZ", "X0", "X9", "X_", "Foo_09bar"} {
		for _, behind := range []string{"", " ", "(", "-", "'", "!", ".", "%", "\x80", "@", "[", "`", "{", "/", ":", "é"} {
			begins(t, name+behind, variable(name), len(name))
		}
	}
}

// P8.1: integers, with nothing but their numbers.
func TestIntegers(t *testing.T) {
	for _, k := range []struct {
		digits string
		n      int
	}{{"0", 0}, {"1", 1}, {"9", 9}, {"10", 10}, {"00", 0}, {"007", 7}, {"1234567890", 1234567890}, {"9007199254740991", api.MaxInt}, {"9007199254740990", api.MaxInt - 1}, {"0009007199254740991", api.MaxInt}, {strings.Repeat("0", 5000) + "12", 12}, {strings.Repeat("0", 65), 0}} {
		for _, behind := range []string{"", " ", "a", "_", "X", ".", "'", "(", "-", "/", ":", "\x80", "x1"} {
			begins(t, k.digits+behind, integer(k.n), len(k.digits))
		}
	}
	for _, digits := range []string{"9007199254740992", "9007199254740993", "9999999999999999", "10000000000000000", "09007199254740992", "9223372036854775807", "9223372036854775808", "18446744073709551615", "18446744073709551616", "18446744073709551617", "36893488147419103233", strings.Repeat("9", 65), "1" + strings.Repeat("0", 5000), strings.Repeat("7", 60000)} {
		for _, behind := range []string{"", " ", "a", ".", "'"} {
			refuses(t, digits+behind, api.ErrRange)
		}
	}
	is(t, "-5", "01", atom("-"), integer(5))
	is(t, "- 5", "0 1", atom("-"), integer(5))
	is(t, "0x1f", "01..", integer(0), atom("x1f"))
	is(t, "0'a'", "01..", integer(0), quoted("a"))
	is(t, "1e5", "01.", integer(1), atom("e5"))
	is(t, "1_000", "01...", integer(1), variable("_000"))
}

// P8.1: brackets, commas and bars, each alone.
func TestPuncts(t *testing.T) {
	for _, sign := range []string{"(", ")", "[", "]", "{", "}", ",", "|"} {
		for _, behind := range []string{"", " ", "(", ")", "[", "]", "{", "}", ",", "|", ".", "a", "X", "0", "'", "+", "\x80"} {
			begins(t, sign+behind, punct(sign), 1)
		}
	}
	is(t, "[]{}||,,", "01234567", punct("["), punct("]"), punct("{"), punct("}"), punct("|"), punct("|"), punct(","), punct(","))
}

// P8.1: names between quotes.
func TestQuoted(t *testing.T) {
	for _, k := range []struct{ text, name string }{
		{`''`, ""}, {`'a'`, "a"}, {`'A b'`, "A b"}, {`' '`, " "}, {`'~'`, "~"}, {`'"'`, `"`}, {`'%'`, "%"}, {`'/*'`, "/*"}, {`'. '`, ". "}, {`'[]'`, "[]"}, {`'foo'`, "foo"}, {`'123'`, "123"},
		{`''''`, "'"}, {`''''''`, "''"}, {`'a''b'`, "a'b"}, {`'a'''`, "a'"}, {`'''a'`, "'a"}, {`'a''''b'`, "a''b"},
		{`'\\'`, `\`}, {`'\''`, "'"}, {`'\n'`, "\n"}, {`'\t'`, "\t"}, {`'\\n'`, `\n`}, {`'\\\n'`, "\\\n"}, {`'\'\''`, "''"}, {`'\''''`, "''"}, {`'''\''`, "''"}, {`'\\'''`, `\'`},
		{`'\x0\'`, "\x00"}, {`'\x00\'`, "\x00"}, {`'\x1\'`, "\x01"}, {`'\x9\'`, "\t"}, {`'\xa\'`, "\n"}, {`'\x0a\'`, "\n"}, {`'\xf\'`, "\x0f"}, {`'\x10\'`, "\x10"}, {`'\x1f\'`, "\x1f"}, {`'\x41\'`, "A"}, {`'\x27\'`, "'"}, {`'\x5c\'`, `\`}, {`'\x7f\'`, "\x7f"}, {`'\x80\'`, "\x80"}, {`'\x99\'`, "\x99"}, {`'\xe9\'`, "\xe9"}, {`'\xff\'`, "\xff"}, {`'\x61\\x62\c'`, "abc"}, {`'\x5c\n'`, `\n`}, {`'\x4\1'`, "\x041"},
		{"'\x80'", "\x80"}, {"'\xff\xfe'", "\xff\xfe"}, {"'é日'", "é日"}, {"'\xc3'", "\xc3"}, {"'a\ufffd'", "a\ufffd"},
		{`'a\nb\tc\\d\'e'`, "a\nb\tc\\d'e"},
	} {
		for _, behind := range []string{"", " ", "(", "a", "X", "1", ".", "+", `\`, "\n", `"`, "\x00", "\x80"} {
			begins(t, k.text+behind, quoted(k.name), len(k.text))
		}
	}
	for c := range 256 {
		b := string([]byte{'\'', 'a', byte(c), 'b', '\''})
		switch {
		case c < 32, c == 127, c == '\\':
			refuses(t, b, api.ErrToken)
		case c == '\'':
			begins(t, b, quoted("a"), 3)
		default:
			begins(t, b, quoted(b[1:4]), 5)
		}
	}
	is(t, "'a' 'b'", "0.. 1..", quoted("a"), quoted("b"))
	is(t, "'' ''", "0. 1.", quoted(""), quoted(""))
	is(t, "''a''", "0.12.", quoted(""), atom("a"), quoted(""))
}

// P8.1: quoted names that have no end, or in which something stands that may not.
func TestQuotedRefused(t *testing.T) {
	for _, text := range []string{
		`'`, `'a`, `'''`, `'a''`, `'''''`, `'a b. c`, `'\`, `'\'`, `'a\'`, `'\\`, `'\\\'`, `'\n`, `'\x`, `'\x4`, `'\x41`, `'\x41\`, `'\x41\\'`,
		"'\n'", "'a\nb'", "'\t'", "'\r'", "'\x00'", "'\x7f'", "'a\\\nb'",
		`'\a'`, `'\b'`, `'\r'`, `'\N'`, `'\T'`, `'\X41\'`, `'\0\'`, `'\1'`, `'\ '`, `'\"'`, "'\\`'", `'\e'`, `'\u0041'`, "'\\\x80'", "'\\\x00'",
		`'\x\'`, `'\x4'`, `'\x41'`, `'\x41 \'`, `'\x041\'`, `'\x123\'`, `'\x4A\'`, `'\xA\'`, `'\xG\'`, `'\xg\'`, `'\x-1\'`, `'\x4g\'`, `'\x/\'`, `'\x:\'`, "'\\x`\\'", `'\x 4\'`, `'\x4`, `'\x''\'`,
	} {
		refuses(t, text, api.ErrToken)
	}
}

// P8.1: names of as many bytes as there may be, and of one more; that a name is too long is told only if nothing else is wrong with it.
func TestLongNames(t *testing.T) {
	for _, k := range []struct {
		first string
		make  func(s string) api.Token
	}{{"a", atom}, {"+", atom}, {".", atom}, {"A", variable}, {"_", variable}} {
		rest := "b"
		if k.first == "+" || k.first == "." {
			rest = "."
		}
		for _, n := range []int{1, 63, 64} {
			name := k.first + strings.Repeat(rest, n-1) + "!"
			begins(t, name, k.make(name[:n]), n)
		}
		for _, n := range []int{65, 66, 128, 64 + 256, 60000} {
			name := k.first + strings.Repeat(rest, n-1)
			refuses(t, name, api.ErrLong)
			refuses(t, name+" \x00", api.ErrLong)
		}
	}
	for _, k := range []struct{ piece, is string }{{"a", "a"}, {"''", "'"}, {`\n`, "\n"}, {`\\`, `\`}, {`\x7f\`, "\x7f"}, {"\xff", "\xff"}} {
		text := "'" + strings.Repeat(k.piece, 64) + "'"
		begins(t, text, quoted(strings.Repeat(k.is, 64)), len(text))
		begins(t, text+"a", quoted(strings.Repeat(k.is, 64)), len(text))
		for _, n := range []int{65, 66, 320, 10000} {
			body := strings.Repeat(k.piece, n)
			refuses(t, "'"+body+"'", api.ErrLong)
			refuses(t, "'"+body+"' '", api.ErrLong)
			refuses(t, "'"+body, api.ErrToken)
			refuses(t, "'"+body+"''", api.ErrToken)
			refuses(t, "'"+body+"\n'", api.ErrToken)
			refuses(t, "'"+body+`\z'`, api.ErrToken)
		}
	}
	begins(t, "'"+strings.Repeat("é", 32)+"'", quoted(strings.Repeat("é", 32)), 66)
	refuses(t, "'a"+strings.Repeat("é", 32)+"'", api.ErrLong)
}

// P8.1: bytes that no token begins with.
func TestNoToken(t *testing.T) {
	first := " \t\n\r%abcdefghijklmnopqrstuvwxyzABCDEFGHIJKLMNOPQRSTUVWXYZ_0123456789+-*/\\^<>=~:.?@#&$!;()[]{},|'"
	for c := range 256 {
		b := []byte{byte(c)}
		if strings.IndexByte(first, byte(c)) >= 0 {
			continue
		}
		refuses(t, string(b), api.ErrToken)
		refuses(t, string(b)+"a", api.ErrToken)
	}
	for _, text := range []string{`"a"`, "`a`", "é", "日", "\xff\xff", "\x00"} {
		refuses(t, text, api.ErrToken)
	}
}

// P8.2: all tokens of a text, in order, with their places, each alone and close behind another.
func TestAll(t *testing.T) {
	is(t, "foo(X, 'a b').", "0..123 4....56", atom("foo"), punct("("), variable("X"), punct(","), quoted("a b"), punct(")"), end())
	is(t, "a :- b, \\+c. % d\n/* e */f.", "0 1. 23 4.56            78", atom("a"), atom(":-"), atom("b"), punct(","), atom("\\+"), atom("c"), end(), atom("f"), end())
	is(t, "[H|T]=..X1-'Y'z!;_9{}.", "012345..6.78..9abc.def", punct("["), variable("H"), punct("|"), variable("T"), punct("]"), atom("=.."), variable("X1"), atom("-"), quoted("Y"), atom("z"), atom("!"), atom(";"), variable("_9"), punct("{"), punct("}"), end())
	is(t, "a/*b*/c%d\n e", "0     1    2", atom("a"), atom("c"), atom("e"))
	// Tokens of all kinds, each behind each: close together where they stay apart, and with layout between.
	texts := []string{"a", "a_9", "+", "=:=", "!", ";", "X", "_", "0", "77", "(", ")", "[", "]", "{", "}", ",", "|", "'q r'", "''", ". "}
	tokens := []api.Token{atom("a"), atom("a_9"), atom("+"), atom("=:="), atom("!"), atom(";"), variable("X"), variable("_"), integer(0), integer(77), punct("("), punct(")"), punct("["), punct("]"), punct("{"), punct("}"), punct(","), punct("|"), quoted("q r"), quoted(""), end()}
	joins := func(x, y api.Token) bool {
		sign := func(x api.Token) bool {
			return x.Kind == api.TokAtom && strings.Contains("+=:=", x.S) || x.Kind == api.TokEnd
		}
		word := func(x api.Token) bool { return x.Kind == api.TokVar || x.Kind == api.TokAtom && x.S[0] == 'a' }
		switch {
		case sign(x) && x.Kind != api.TokEnd && sign(y), x.Kind == api.TokQuoted && y.Kind == api.TokQuoted, x.Kind == api.TokInt && y.Kind == api.TokInt:
			return true
		}
		return word(x) && (word(y) || y.Kind == api.TokInt)
	}
	for m, x := range texts {
		for n, y := range texts {
			for _, layout := range []string{"", " ", "\n%c\n", "/**/"} {
				first := strings.TrimRight(x, " ")
				if layout == "" && joins(tokens[m], tokens[n]) || layout == "/**/" && strings.ContainsAny(first[len(first)-1:], "+=.") {
					continue
				}
				text := x + layout + y
				want := []api.Token{tokens[m], placed(tokens[n], len(x+layout), len(first) < len(x+layout))}
				if l, place, e := token.All([]byte(text)); !slices.Equal(l, want) || place != len(text) || e != api.OK {
					t.Errorf("All(%q) = %v, %d, %d, not %v", text, l, place, e, want)
				}
			}
		}
	}
}

// P8.2: the first thing that is refused, and its place.
func TestAllRefuses(t *testing.T) {
	for _, k := range []struct {
		text string
		at   int
		want api.Errno
	}{
		{"\"", 0, api.ErrToken},
		{"a. b. \"c\" 'd", 6, api.ErrToken},
		{"a 'b\n' /*", 2, api.ErrToken},
		{"a /* b", 2, api.ErrToken},
		{"a% /*\n /* b", 7, api.ErrToken},
		{"a " + strings.Repeat("b", 65) + " \x00", 2, api.ErrLong},
		{"a 9007199254740992 \x00", 2, api.ErrRange},
		{"a \x00 9007199254740992", 2, api.ErrToken},
		{"9007199254740992 " + strings.Repeat("b", 65), 0, api.ErrRange},
		{strings.Repeat("b", 65) + " 9007199254740992", 0, api.ErrLong},
		{"a.\xff", 2, api.ErrToken},
	} {
		if l, n, e := token.All([]byte(k.text)); len(l) != 0 || n != k.at || e != k.want {
			t.Errorf("All(%q) = %v, %d, %d, not %d, %d", k.text, l, n, e, k.at, k.want)
		}
	}
	if l, n, e := token.All(nil); len(l) != 0 || n != 0 || e != api.OK {
		t.Error(l, n, e)
	}
}

// R3: the text is neither changed nor kept, nor is what lies behind its end looked at.
func TestTextStays(t *testing.T) {
	const text = "foo(X, 'a\\nb') . % c"
	b := []byte(text + " d. e.")
	x, _, _ := token.Scan(b[:len(text)], 0)
	y, _, _ := token.Scan(b[:len(text)], 6)
	l, n, e := token.All(b[:len(text)])
	if string(b) != text+" d. e." || n != len(text) || e != api.OK || len(l) != 7 {
		t.Fatalf("%q, %d, %d, %v", b, n, e, l)
	}
	for k := range b {
		b[k] = '#'
	}
	if x != atom("foo") || y != placed(quoted("a\nb"), 7, true) || l[0] != x || l[2] != placed(variable("X"), 4, false) {
		t.Error(x, y, l)
	}
	b = []byte("a. b")
	if l, n, e := token.All(b[:2]); len(l) != 2 || l[1].Kind != api.TokEnd || n != 2 || e != api.OK {
		t.Error(l, n, e)
	}
	b = []byte("/* a */ 'b''c'")
	if _, n, e := token.Scan(b[:6], 0); n != 0 || e != api.ErrToken {
		t.Error(n, e)
	}
	if _, n, e := token.Scan(b[:11], 8); n != 11 || e != api.OK {
		t.Error(n, e)
	}
}
