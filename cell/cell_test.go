package cell

import (
	"strconv"
	"strings"
	"testing"

	"elenchus/api"
)

const leastNumber = -1 << 60

// numbers are ordinary ones, and those at the edges of a cell, of 32 bits and of a term's integers.
var numbers = []int{
	0, 1, -1, 2, -2, 3, 7, -7, 8, -8, 9, 10, -10, 42, 99, -99, 100, 1 << 20, -1 << 20,
	1<<31 - 1, 1 << 31, -1 << 31, 1<<32 - 1, 1 << 32, api.MaxInt, -api.MaxInt, api.MaxInt + 1,
	1<<59 - 1, 1 << 59, -1 << 59, api.MostCell - 1, api.MostCell, leastNumber + 1, leastNumber,
}

var tagNames = map[int]string{
	api.TagRef: "ref", api.TagStr: "str", api.TagAtom: "atom", api.TagInt: "int",
	api.TagFun: "fun", api.TagFree: "free", 7: "tag7",
}

func mustMake(t *testing.T, tag, n int) uint64 {
	t.Helper()
	w, e := Make(tag, n)
	if e != api.OK {
		t.Fatalf("Make(%d, %d): error %d", tag, n, e)
	}
	return w
}

// P1.1: the words themselves.
func TestMakeLaysTagAndNumber(t *testing.T) {
	for _, c := range []struct {
		tag, n int
		w      uint64
	}{
		{api.TagInt, -1, 0xfffffffffffffffc},
		{api.TagRef, 0, 1},
		{api.TagStr, 1, 10},
		{api.TagAtom, 2, 19},
		{api.TagFun, api.MostCell, 0x7ffffffffffffffd},
		{api.TagFree, leastNumber, 0x8000000000000006},
		{7, -1, 0xffffffffffffffff},
		{7, 0, 7},
	} {
		if w := mustMake(t, c.tag, c.n); w != c.w {
			t.Errorf("Make(%d, %d) = %#x, not %#x", c.tag, c.n, w, c.w)
		}
	}
}

// P1.1: what may not be made.
func TestMakeRefuses(t *testing.T) {
	const most, lowest = 1<<63 - 1, -1 << 63
	for _, tag := range []int{0, -1, 8, 9, -7, 1 << 32, 1<<32 + 1, most, lowest} {
		for _, n := range []int{0, 1, -1, api.MostCell, leastNumber, most, lowest} {
			if w, e := Make(tag, n); w != 0 || e != api.ErrArg {
				t.Errorf("Make(%d, %d) = %#x, %d", tag, n, w, e)
			}
		}
	}
	for tag := 1; tag <= 7; tag++ {
		for _, n := range []int{api.MostCell + 1, leastNumber - 1, 1 << 61, -1 << 61, most, lowest} {
			if w, e := Make(tag, n); w != 0 || e != api.ErrArg {
				t.Errorf("Make(%d, %d) = %#x, %d", tag, n, w, e)
			}
		}
	}
}

// P1.1: words with tag 0 are no cells, whatever their other bits are.
func TestNoCell(t *testing.T) {
	for _, w := range []uint64{0, 8, 16, 80, 1 << 63, 1<<64 - 8} {
		if Tag(w) != 0 || Number(w) != 0 || Text(w) != "." {
			t.Errorf("%#x: tag %d, number %d, text %q", w, Tag(w), Number(w), Text(w))
		}
		for tag := -1; tag <= 9; tag++ {
			if Is(w, tag) {
				t.Errorf("%#x is of tag %d", w, tag)
			}
		}
	}
}

// P1.1: a word is of its own tag alone.
func TestIs(t *testing.T) {
	const most, lowest = 1<<63 - 1, -1 << 63
	for own := 1; own <= 7; own++ {
		for _, n := range numbers {
			w := mustMake(t, own, n)
			for _, tag := range []int{-1, 0, 1, 2, 3, 4, 5, 6, 7, 8, own + 8, own - 8, own + 1<<32, most, lowest} {
				if Is(w, tag) != (tag == own) {
					t.Errorf("Is(%#x, %d) = %v", w, tag, Is(w, tag))
				}
			}
		}
	}
}

// P1.2: names of tags.
func TestName(t *testing.T) {
	const most, lowest = 1<<63 - 1, -1 << 63
	for _, tag := range []int{lowest, -8, -1, 0, 1, 2, 3, 4, 5, 6, 7, 8, 9, 255, 1<<32 + 1, most} {
		if Name(tag) != tagNames[tag] {
			t.Errorf("Name(%d) = %q", tag, Name(tag))
		}
	}
}

// P1.2: texts of words.
func TestText(t *testing.T) {
	for _, c := range []struct {
		tag, n int
		text   string
	}{
		{api.TagRef, 0, "ref:0"},
		{api.TagStr, 10, "str:10"},
		{api.TagAtom, 7, "atom:7"},
		{api.TagInt, -1, "int:-1"},
		{api.TagFun, api.MostCell, "fun:1152921504606846975"},
		{api.TagFree, leastNumber, "free:-1152921504606846976"},
		{7, 100, "tag7:100"},
	} {
		if s := Text(mustMake(t, c.tag, c.n)); s != c.text {
			t.Errorf("Text of %d, %d: %q, not %q", c.tag, c.n, s, c.text)
		}
	}
}

// P1.2: texts that are read.
func TestParse(t *testing.T) {
	if w, e := Parse("."); w != 0 || e != api.OK {
		t.Errorf("the point: %#x, %d", w, e)
	}
	for tag, name := range tagNames {
		for _, n := range numbers {
			s := name + ":" + strconv.Itoa(n)
			if w, e := Parse(s); w != mustMake(t, tag, n) || e != api.OK {
				t.Errorf("Parse(%q) = %#x, %d", s, w, e)
			}
		}
	}
}

// P1.2: texts that are no word's.
func TestParseRefuses(t *testing.T) {
	for _, s := range []string{
		"", " ", ":", "::", "..", ". ", " .", ".:0", ":.", "0", "7", "-1",
		"ref", "ref:", ":1", ":0", "ref1", "ref 1", "ref;1", "ref:.", "ref:-", "ref:+", "ref:--1",
		"ref:+1", "ref:-0", "ref:00", "ref:01", "ref:-01", "ref: 1", "ref:1 ", " ref:1", "ref :1",
		"ref:1:", "ref:1:1", "ref::1", "ref:1.", "ref:1.0", "ref:1e3", "ref:1_0", "ref:0x1", "ref:x",
		"Ref:1", "REF:1", "re:1", "reff:1", "refs:1", "x:1", "tag:1", "tag0:1", "tag1:1", "tag6:1", "tag8:1", "tag07:1", "7:1",
		"ref:1\x00", "ref:1\n", "\x00", "\xff", "ref:\xff", "ref:\u0661", "réf:1",
		"int:1152921504606846976", "int:-1152921504606846977", "int:2305843009213693951",
		"int:9223372036854775807", "int:-9223372036854775808", "int:9223372036854775808",
		"int:18446744073709551616", "int:18446744073709551617",
		"int:" + strings.Repeat("0", 5000), "int:" + strings.Repeat("9", 5000), "int:-" + strings.Repeat("1", 5000),
		strings.Repeat("ref", 5000), strings.Repeat(":", 5000),
	} {
		if w, e := Parse(s); w != 0 || e != api.ErrCell {
			t.Errorf("Parse(%.40q) = %#x, %d", s, w, e)
		}
	}
}

// P1.2: of all short texts just those of words are read.
func TestParseShortTexts(t *testing.T) {
	const signs = "ref:.-+019"
	texts := []string{""}
	for range 3 {
		var longer []string
		for _, s := range texts {
			for _, c := range signs {
				longer = append(longer, s+string(c))
			}
		}
		texts = longer
		for _, s := range texts {
			for _, whole := range []string{s, "ref:" + s} {
				if w, e := Parse(whole); e == api.OK && Text(w) != whole || e != api.OK && w != 0 {
					t.Errorf("Parse(%q) = %#x, %d", whole, w, e)
				}
			}
		}
	}
}

// P1.3: what was made comes back, by its parts and by its text, and is unlike all others.
func TestCellsComeBack(t *testing.T) {
	seen := map[uint64]string{}
	for tag := 1; tag <= 7; tag++ {
		for _, n := range numbers {
			w := mustMake(t, tag, n)
			if Tag(w) != tag || Number(w) != n || !Is(w, tag) {
				t.Errorf("of %d, %d: tag %d, number %d", tag, n, Tag(w), Number(w))
			}
			s := Text(w)
			if s != tagNames[tag]+":"+strconv.Itoa(n) {
				t.Errorf("of %d, %d: text %q", tag, n, s)
			}
			if x, e := Parse(s); x != w || e != api.OK {
				t.Errorf("Parse(%q) = %#x, %d", s, x, e)
			}
			if other, is := seen[w]; is {
				t.Errorf("%q and %q are one cell", s, other)
			}
			seen[w] = s
		}
	}
}

// P1.3: any word is no cell, or what its tag and its number make.
func TestAnyWord(t *testing.T) {
	for w, i := uint64(1), 0; i < 20000; i++ {
		w = w*6364136223846793005 + 1442695040888963407
		x := w ^ w>>29
		if Tag(x) == 0 {
			continue
		}
		if y := mustMake(t, Tag(x), Number(x)); y != x {
			t.Fatalf("%#x made again: %#x", x, y)
		}
		if y, e := Parse(Text(x)); y != x || e != api.OK {
			t.Fatalf("%#x read again: %#x, %d", x, y, e)
		}
	}
}
