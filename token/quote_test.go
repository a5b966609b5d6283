package token_test

import (
	"regexp"
	"strings"
	"testing"

	"elenchus/api"
	"elenchus/token"
)

// P8.3: names that may stand as they are, and such as may not; and how these are written.
func TestPlainAndQuote(t *testing.T) {
	for _, name := range []string{
		"a", "z", "foo", "aZ", "aA09_", "a_", "z__9",
		"+", "-", "*", "/", "\\", "^", "<", ">", "=", "~", ":", "?", "@", "#", "&", "$", "+-*/\\^<>=~:.?@#&$",
		"..", "...", ".=", "=..", ":-", "-->", "\\+", "/", "//", "//*", "+/*", "*/", "**", "/+*", "./*", "*/*",
		"!", ";", "[]", "{}",
		strings.Repeat("a", 64), strings.Repeat("+", 64), strings.Repeat("a", 65), strings.Repeat("/", 1000),
	} {
		if !token.Plain(name) {
			t.Errorf("%.80q is plain", name)
		}
		if text := token.Quote(name); text != name {
			t.Errorf("Quote(%.80q) = %.80q", name, text)
		}
	}
	for name, want := range map[string]string{
		"": `''`, ".": `'.'`, "/*": `'/*'`, "/**": `'/**'`, "/*/": `'/*/'`, "/**/": `'/**/'`, "/*+": `'/*+'`, "/*a*/": `'/*a*/'`,
		"A": `'A'`, "Z": `'Z'`, "_": `'_'`, "_a": `'_a'`, "0": `'0'`, "9a": `'9a'`, "12": `'12'`, "Foo": `'Foo'`,
		" ": `' '`, "a ": `'a '`, " a": `' a'`, "a b": `'a b'`, "a.": `'a.'`, "a+": `'a+'`, "+a": `'+a'`, "+ +": `'+ +'`, "a-b": `'a-b'`,
		"(": `'('`, ")": `')'`, "[": `'['`, "]": `']'`, "{": `'{'`, "}": `'}'`, ",": `','`, "|": `'|'`, "%": `'%'`, "\"": `'"'`, "`": "'`'",
		"[ ]": `'[ ]'`, "[][]": `'[][]'`, "{ }": `'{ }'`, "[}": `'[}'`, "()": `'()'`, "[]a": `'[]a'`, "a[]": `'a[]'`, "!!": `'!!'`, ";;": `';;'`, "!;": `'!;'`, "!a": `'!a'`, "a!": `'a!'`, "+!": `'+!'`, ";+": `';+'`,
		"'": `'\''`, "''": `'\'\''`, "don't": `'don\'t'`, "'a'": `'\'a\''`, "a\\": `'a\\'`, "\\a": `'\\a'`, "\\'": `'\\\''`, "\\\\ ": `'\\\\ '`,
		"\n": `'\n'`, "\t": `'\t'`, "a\nb\tc": `'a\nb\tc'`, "a\n": `'a\n'`, "+\n": `'+\n'`,
		"\x00": `'\x0\'`, "\x01": `'\x1\'`, "\b": `'\x8\'`, "\v": `'\xb\'`, "\f": `'\xc\'`, "\r": `'\xd\'`, "\x0f": `'\xf\'`, "\x10": `'\x10\'`, "\x1a": `'\x1a\'`, "\x1f": `'\x1f\'`, "\x7f": `'\x7f\'`, "\x7f\x7f1": `'\x7f\\x7f\1'`, "a\x00b": `'a\x0\b'`, "\x00\x0a\x00": `'\x0\\n\x0\'`,
		"~ ": `'~ '`, "é": `'é'`, "aé": `'aé'`, "éa": `'éa'`, "日本": `'日本'`, "\x80": "'\x80'", "a\xff": "'a\xff'", "\xff'\xfe": "'\xff\\'\xfe'", "\ufffd": "'\ufffd'", "\xc3": "'\xc3'", "\xc3\n\xa9": "'\xc3\\n\xa9'", "é\x00é": `'é\x0\é'`, "+é": `'+é'`, "\u0085": "'\u0085'", "\xe3\x81": "'\xe3\x81'",
		strings.Repeat("'", 65): "'" + strings.Repeat(`\'`, 65) + "'", strings.Repeat("A", 1000): "'" + strings.Repeat("A", 1000) + "'",
	} {
		if token.Plain(name) {
			t.Errorf("%.80q is not plain", name)
		}
		if text := token.Quote(name); text != want {
			t.Errorf("Quote(%.80q) = %.80q, not %.80q", name, text, want)
		}
	}
}

var plain = regexp.MustCompile(`^(?:[a-z][a-zA-Z0-9_]*|[-+*/\\^<>=~:.?@#&$]+|!|;|\[\]|\{\})$`)

// mayStand tells whether the name is meant to be plain.
func mayStand(name string) bool {
	return plain.MatchString(name) && name != "." && !strings.HasPrefix(name, "/*")
}

// returns checks what is told of the name, and that its text is scanned as it.
func returns(t *testing.T, name string) {
	t.Helper()
	text := token.Quote(name)
	want := api.Token{Kind: api.TokQuoted, S: name}
	if mayStand(name) {
		want.Kind = api.TokAtom
	}
	if token.Plain(name) != mayStand(name) || (text == name) != mayStand(name) {
		t.Errorf("Plain(%q) = %v, Quote: %q", name, token.Plain(name), text)
	}
	if name == "[]" || name == "{}" {
		is(t, text, "01", punct(name[:1]), punct(name[1:]))
		return
	}
	for _, behind := range []string{"", " ", "(", ")", ","} {
		if x, n, e := token.Scan([]byte(text+behind), 0); x != want || n != len(text) || e != api.OK {
			t.Errorf("Scan(%q) = %v, %d, %d", text+behind, x, n, e)
		}
	}
}

// P8.3, P8.4: what is quoted is scanned as that name, whatever its bytes are.
func TestQuotedComesBack(t *testing.T) {
	returns(t, "")
	for b := range 256 {
		returns(t, string([]byte{byte(b)}))
		for c := range 256 {
			returns(t, string([]byte{byte(b), byte(c)}))
		}
	}
	const often = "a+'\\/*.\n\x00\x7f\xc3\xa9xf0_A! "
	s := source(3)
	for range 5000 {
		name := make([]byte, 1+s.next(api.MaxName))
		for n := range name {
			name[n] = byte(s.next(256))
			if s.next(2) == 0 {
				name[n] = often[s.next(len(often))]
			}
		}
		returns(t, string(name))
	}
	for _, name := range []string{strings.Repeat("a", 64), strings.Repeat("'", 64), strings.Repeat("\x00", 64), strings.Repeat("\x7f", 64), strings.Repeat("+", 64), strings.Repeat("\xff", 64)} {
		returns(t, name)
	}
}

// source is a row of numbers that look like random ones.
type source uint64

func (s *source) next(n int) int {
	*s = *s*6364136223846793005 + 1442695040888963407
	return int(*s >> 33 % source(n))
}
