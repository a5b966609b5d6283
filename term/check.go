package term

import "elenchus/api"

// What is handed in need not be a term: it may be so deep that calls within calls would not do, and have far more parts than there are lists, since one list may stand in many places.

// mostParts is more parts, of 56 bytes each, than 2^31 - 1 bytes hold: no longer answer is promised.
const mostParts = 39_000_000

// row is a list of arguments, known by where it begins and how long it is.
type row struct {
	first *api.Term
	long  int
}

// Check answers what is wrong with the term, if it may not be.
func Check(t api.Term) api.Errno {
	left := api.MaxNodes
	e := look(t, 1, &left)
	if e == api.OK || e == api.ErrTerm {
		return e
	}
	// What would have to be told first may stand where the look did not come to.
	if !sound(t) {
		return api.ErrTerm
	}
	if deep(t) {
		return api.ErrDepth
	}
	return api.ErrMany
}

// may tells whether all of these are terms that may be.
func may(l ...api.Term) bool {
	for _, t := range l {
		if Check(t) != api.OK {
			return false
		}
	}
	return true
}

// look answers the first thing that is wrong with the term, which stands so deep, while so many parts are left to be looked at; it goes no further than a term that may be.
func look(t api.Term, depth int, left *int) api.Errno {
	if !isPart(t) {
		return api.ErrTerm
	}
	if depth > api.MaxDepth {
		return api.ErrDepth
	}
	*left--
	if *left < 0 {
		return api.ErrMany
	}
	for _, arg := range t.L {
		if e := look(arg, depth+1, left); e != api.OK {
			return e
		}
	}
	return api.OK
}

// isPart tells whether the term may be, as far as its arguments may.
func isPart(t api.Term) bool {
	switch t.Kind {
	case api.KindVar:
		return t.N >= 0 && t.N < api.MaxVar && t.S == "" && len(t.L) == 0
	case api.KindInt:
		return t.N >= -api.MaxInt && t.N <= api.MaxInt && t.S == "" && len(t.L) == 0
	case api.KindAtom:
		return t.N == 0 && len(t.S) <= api.MaxName && len(t.L) == 0
	case api.KindComp:
		return t.N == 0 && len(t.S) <= api.MaxName && len(t.L) >= 1 && len(t.L) <= api.MaxArity
	}
	return false
}

// sound tells whether all parts of the term may be. Each list is looked at once, in however many places it stands.
func sound(t api.Term) bool {
	seen := make(map[row]struct{})
	rest := [][]api.Term{{t}}
	for len(rest) > 0 {
		last := len(rest) - 1
		l := rest[last]
		rest = rest[:last]
		for _, part := range l {
			if !isPart(part) {
				return false
			}
		}
		rest = further(rest, l, seen)
	}
	return true
}

// deep tells whether the term, all parts of which may be, is deeper than a term may be. It is gone through level by level, each list once in a level.
func deep(t api.Term) bool {
	level := [][]api.Term{{t}}
	for range api.MaxDepth {
		seen := make(map[row]struct{})
		var next [][]api.Term
		for _, l := range level {
			next = further(next, l, seen)
		}
		level = next
	}
	return len(level) > 0
}

// further puts those arguments' lists behind the others that were not seen yet; they are seen then.
func further(lists [][]api.Term, args []api.Term, seen map[row]struct{}) [][]api.Term {
	for _, arg := range args {
		if len(arg.L) == 0 {
			continue
		}
		at := row{first: &arg.L[0], long: len(arg.L)}
		if _, is := seen[at]; !is {
			seen[at] = struct{}{}
			lists = append(lists, arg.L)
		}
	}
	return lists
}

// fits tells whether these, terms or none, have so few parts that they can be answered.
func fits(terms []api.Term) bool {
	left := mostParts - len(terms)
	rest := [][]api.Term{terms}
	for len(rest) > 0 && left >= 0 {
		last := len(rest) - 1
		l := rest[last]
		rest = rest[:last]
		for _, part := range l {
			if len(part.L) > 0 {
				left -= len(part.L)
				rest = append(rest, part.L)
			}
		}
	}
	return left >= 0
}

// copied answers these, terms or none, in memory of their own.
func copied(terms []api.Term) []api.Term {
	whole := fresh(terms)
	rest := [][]api.Term{whole}
	for len(rest) > 0 {
		last := len(rest) - 1
		l := rest[last]
		rest = rest[:last]
		for i := range l {
			l[i].L = fresh(l[i].L)
			if len(l[i].L) > 0 {
				rest = append(rest, l[i].L)
			}
		}
	}
	return whole
}

// fresh answers a list of the same terms, whose arguments it shares.
func fresh(l []api.Term) []api.Term {
	if len(l) == 0 {
		return nil
	}
	return append(make([]api.Term, 0, len(l)), l...)
}
