package term

import (
	"strings"
	"testing"

	"elenchus/api"
)

const (
	most   = 1<<63 - 1
	lowest = -1 << 63
)

// Names of 64 and of 65 bytes.
var long, tooLong = strings.Repeat("n", 64), strings.Repeat("n", 65)

// compound is one whose arguments are not copied, so that tests lay lists as they want.
func compound(s string, l ...api.Term) api.Term {
	return api.Term{Kind: api.KindComp, S: s, L: l}
}

// args answers n integers.
func args(n int) []api.Term {
	l := make([]api.Term, n)
	for i := range l {
		l[i] = api.Term{Kind: api.KindInt, N: i}
	}
	return l
}

// nested answers a term that many levels above the inner one.
func nested(levels int, inner api.Term) api.Term {
	for range levels {
		inner = compound("s", inner)
	}
	return inner
}

// wide answers a term of so many parts, 2 or more, that is but a few levels deep.
func wide(parts int) api.Term {
	n := parts - 1
	if n <= 16 {
		return compound("w", args(n)...)
	}
	var l []api.Term
	for i := range 16 {
		share := n / 16
		if i < n%16 {
			share++
		}
		if share < 5 {
			l = append(l, nested(share-1, atom))
		} else {
			l = append(l, wide(share))
		}
	}
	return compound("w", l...)
}

// doubled answers a term of 2^(levels+1) - 1 parts, all lists of a level being the same one.
func doubled(levels int, inner api.Term) api.Term {
	for range levels {
		inner = compound("d", inner, inner)
	}
	return inner
}

// endless answers a term that has itself as an argument, behind others.
func endless(others ...api.Term) api.Term {
	l := append(append([]api.Term(nil), others...), api.Term{})
	l[len(l)-1] = compound("e", l...)
	l[len(l)-1].L = l
	return l[len(l)-1]
}

var atom = api.Term{Kind: api.KindAtom, S: "a"}

// good are terms that may be, at the edges too.
var good = map[string]api.Term{
	"var 0":              {Kind: api.KindVar},
	"var 7":              {Kind: api.KindVar, N: 7},
	"last var":           {Kind: api.KindVar, N: api.MaxVar - 1},
	"var, empty list":    {Kind: api.KindVar, N: 1, L: []api.Term{}},
	"int 0":              {Kind: api.KindInt},
	"int -1":             {Kind: api.KindInt, N: -1},
	"greatest int":       {Kind: api.KindInt, N: api.MaxInt},
	"least int":          {Kind: api.KindInt, N: -api.MaxInt},
	"int, empty list":    {Kind: api.KindInt, N: 1, L: make([]api.Term, 0, 4)},
	"atom":               {Kind: api.KindAtom, S: "a"},
	"no name":            {Kind: api.KindAtom},
	"64 bytes":           {Kind: api.KindAtom, S: long},
	"64 bytes, 32 signs": {Kind: api.KindAtom, S: strings.Repeat("\u00e9", 32)},
	"any bytes":          {Kind: api.KindAtom, S: "\x00\xff '"},
	"atom, empty list":   {Kind: api.KindAtom, S: "a", L: []api.Term{}},
	"1 argument":         compound("f", args(1)...),
	"16 arguments":       compound("f", args(16)...),
	"comp, no name":      compound("", args(2)...),
	"comp, 64 bytes":     compound(long, args(1)...),
	"list":               compound(".", args(2)...),
	"no list":            compound(".", args(3)...),
	"depth 200":          nested(199, atom),
	"depth 200, comps":   nested(198, compound("g", args(16)...)),
	"4096 parts":         wide(4096),
	"4095 parts, shared": doubled(11, atom),
	"shared":             compound("f", good3, good3, good3),
}

var good3 = compound("g", args(3)...)

// bad are parts that may not be.
var bad = map[string]api.Term{
	"nothing":              {},
	"kind -1":              {Kind: -1},
	"kind 5":               {Kind: 5},
	"kind 2^32 + 1":        {Kind: 1<<32 + 1},
	"greatest kind":        {Kind: most},
	"no kind, but a name":  {S: "a"},
	"no kind, but a list":  {S: "a", L: args(1)},
	"var -1":               {Kind: api.KindVar, N: -1},
	"var beyond":           {Kind: api.KindVar, N: api.MaxVar},
	"lowest var":           {Kind: api.KindVar, N: lowest},
	"greatest var":         {Kind: api.KindVar, N: most},
	"var 2^32":             {Kind: api.KindVar, N: 1 << 32},
	"var with a name":      {Kind: api.KindVar, S: "X"},
	"var with a list":      {Kind: api.KindVar, L: args(1)},
	"int above":            {Kind: api.KindInt, N: api.MaxInt + 1},
	"int below":            {Kind: api.KindInt, N: -api.MaxInt - 1},
	"greatest int of all":  {Kind: api.KindInt, N: most},
	"least int of all":     {Kind: api.KindInt, N: lowest},
	"int with a name":      {Kind: api.KindInt, S: "1"},
	"int with a list":      {Kind: api.KindInt, L: args(2)},
	"65 bytes":             {Kind: api.KindAtom, S: tooLong},
	"65 bytes, 33 signs":   {Kind: api.KindAtom, S: strings.Repeat("\u00e9", 32) + "a"},
	"atom with a number":   {Kind: api.KindAtom, S: "a", N: 1},
	"atom with a list":     {Kind: api.KindAtom, S: "a", L: args(1)},
	"atom, a list of none": {Kind: api.KindAtom, S: "a", L: []api.Term{{}}},
	"0 arguments":          {Kind: api.KindComp, S: "f"},
	"an empty list":        {Kind: api.KindComp, S: "f", L: []api.Term{}},
	"17 arguments":         compound("f", args(17)...),
	"100000 arguments":     compound("f", args(100000)...),
	"comp, 65 bytes":       compound(tooLong, args(1)...),
	"comp with a number":   {Kind: api.KindComp, S: "f", N: -1, L: args(1)},
}

// P6.1: terms that may be, alone and within others.
func TestCheckGood(t *testing.T) {
	for name, x := range good {
		if e := Check(x); e != api.OK {
			t.Errorf("%s: %d", name, e)
		}
	}
	for _, name := range []string{"last var", "greatest int", "64 bytes", "16 arguments", "shared"} {
		if e := Check(nested(190, compound("f", good[name], good[name]))); e != api.OK {
			t.Errorf("%s within: %d", name, e)
		}
	}
}

// P6.1: parts that may not be, alone and within others, wherever they stand.
func TestCheckBad(t *testing.T) {
	for name, x := range bad {
		l := args(16)
		l[15] = x
		for where, y := range map[string]api.Term{
			"alone":             x,
			"within":            compound("f", x),
			"last":              compound("f", l...),
			"deep":              nested(198, x),
			"first, then good":  compound("f", x, atom),
			"too deep":          nested(200, x),
			"far too deep":      nested(5000, x),
			"behind too deep":   compound("f", nested(300, atom), x),
			"ahead of too deep": compound("f", x, nested(300, atom)),
			"behind too many":   compound("f", wide(5000), x),
			"ahead of too many": compound("f", x, wide(5000)),
			"behind both":       compound("f", wide(5000), nested(300, wide(5000)), x),
			"in shared ones":    doubled(100, x),
			"in an endless one": endless(atom, x),
			"behind shared":     compound("f", doubled(190, atom), x),
			"behind an endless": compound("f", endless(endless(atom)), x),
		} {
			if e := Check(y); e != api.ErrTerm {
				t.Errorf("%s, %s: %d", name, where, e)
			}
		}
	}
}

// P6.1: depth 200 and 201, parts 4096 and 4097, and which of the two is told.
func TestCheckLimits(t *testing.T) {
	long := nested(198, atom)
	for name, c := range map[string]struct {
		t api.Term
		e api.Errno
	}{
		"depth 200":                 {nested(199, atom), api.OK},
		"depth 201":                 {nested(200, atom), api.ErrDepth},
		"depth 201, in a comp":      {nested(199, compound("f", args(1)...)), api.ErrDepth},
		"depth 70000":               {nested(70000, atom), api.ErrDepth},
		"depth 200, last argument":  {compound("f", atom, atom, long), api.OK},
		"depth 201, last argument":  {compound("f", atom, atom, nested(1, long)), api.ErrDepth},
		"depth 201, first argument": {compound("f", nested(1, long), atom, atom), api.ErrDepth},
		"4096 parts":                {wide(4096), api.OK},
		"4097 parts":                {wide(4097), api.ErrMany},
		"60000 parts":               {wide(60000), api.ErrMany},
		"both limits at once":       {compound("f", long, wide(4096-200)), api.OK},
		"a part more":               {compound("f", long, wide(4097-200)), api.ErrMany},
		"a level more":              {compound("f", nested(1, long), wide(4096-201)), api.ErrDepth},
		"both beyond":               {compound("f", nested(1, long), wide(5000)), api.ErrDepth},
		"too many, then too deep":   {compound("f", wide(5000), nested(1, long)), api.ErrDepth},
		"4095 shared parts":         {doubled(11, atom), api.OK},
		"8191 shared parts":         {doubled(12, atom), api.ErrMany},
		"2^200 shared parts":        {doubled(199, atom), api.ErrMany},
		"2^201 shared parts":        {doubled(200, atom), api.ErrDepth},
		"2^5000 shared parts":       {doubled(5000, atom), api.ErrDepth},
		"shared at many depths":     {ladder(190), api.ErrMany},
		"shared, too deep":          {ladder(201), api.ErrDepth},
		"an endless one":            {endless(atom, atom), api.ErrDepth},
		"endless within":            {compound("f", wide(5000), endless()), api.ErrDepth},
	} {
		if e := Check(c.t); e != c.e {
			t.Errorf("%s: %d, not %d", name, e, c.e)
		}
	}
}

// P6.1: lists that begin at one place, but are not of one length, are looked at one by one.
func TestCheckPieces(t *testing.T) {
	row := []api.Term{atom, nested(150, atom), {}}
	all := []api.Term{wide(5000)}
	for i, want := range []api.Errno{api.ErrMany, api.ErrDepth, api.ErrTerm} {
		all = append(all, nested(60, compound("g", row[:i+1]...)))
		if e := Check(compound("f", all...)); e != want {
			t.Errorf("%d: %d, not %d", i, e, want)
		}
	}
}

// times answers the term that many times.
func times(n int, x api.Term) []api.Term {
	var all []api.Term
	for range n {
		all = append(all, x)
	}
	return all
}

// ladder answers a term so deep in which each list stands at very many depths.
func ladder(depth int) api.Term {
	a, b := atom, atom
	for range depth - 1 {
		a, b = compound("f", b, a, b), a
	}
	return a
}

// P6.1: the largest term that is as deep as may be.
func TestCheckLargest(t *testing.T) {
	x := nested(198, atom)
	l := times(16, x)
	// 1 + 16 * 199 parts, and further ones to make 4096.
	l[15] = compound("f", x.L[0], wide(4096-1-15*199-1-198))
	if e := Check(compound("f", l...)); e != api.OK {
		t.Error(e)
	}
	l[15] = compound("f", x.L[0], wide(4097-1-15*199-1-198))
	if e := Check(compound("f", l...)); e != api.ErrMany {
		t.Error(e)
	}
}

// R1: no call panics or goes on for ever, however large, deep or endless what it is given is; what may not be is answered with zero values.
func TestAnythingIsAnswered(t *testing.T) {
	wrong := map[string]api.Term{
		"depth 201": nested(200, atom), "depth 70000": nested(70000, atom), "4097 parts": wide(4097), "shared": doubled(199, atom), "endless": endless(atom),
	}
	for name, x := range bad {
		wrong[name] = x
	}
	for name, x := range wrong {
		for _, y := range []api.Term{x, compound("f", x, atom)} {
			if l := Vars(y); len(l) != 0 {
				t.Errorf("%s: Vars %v", name, l)
			}
			if z, n := Rename(y); !zero(z) || n != 0 {
				t.Errorf("%s: Rename %v, %d", name, z, n)
			}
			if items, z := Items(y); len(items) != 0 || !zero(z) {
				t.Errorf("%s: Items %v, %v", name, items, z)
			}
			if Size(y) != 0 || Depth(y) != 0 || Ground(y) || !zero(Clone(y)) {
				t.Errorf("%s: Size %d, Depth %d, Ground %v, Clone %v", name, Size(y), Depth(y), Ground(y), Clone(y))
			}
			if !zero(Replace(y, nil)) || !zero(Replace(y, []api.Term{atom})) {
				t.Errorf("%s: Replace in it", name)
			}
			for _, inner := range []api.Term{atom, Var(0), Var(3)} {
				if !zero(Replace(inner, []api.Term{y})) || !zero(Replace(inner, []api.Term{atom, atom, y})) {
					t.Errorf("%s: Replace with it", name)
				}
			}
			for _, z := range []api.Term{y, atom, {}} {
				if Same(y, z) || Same(z, y) || Variant(y, z) || Variant(z, y) {
					t.Errorf("%s: Same %v, Variant %v", name, Same(y, z), Variant(y, z))
				}
			}
		}
	}
}

func zero(t api.Term) bool {
	return t.Kind == 0 && t.N == 0 && t.S == "" && len(t.L) == 0
}
