package instr

import "elenchus/api"

// names are the operations' names.
var names = [...]string{
	api.InsGetVar:  "get_var",
	api.InsGetVal:  "get_val",
	api.InsGetAtom: "get_atom",
	api.InsGetInt:  "get_int",
	api.InsGetStr:  "get_str",
	api.InsUniVar:  "uni_var",
	api.InsUniVal:  "uni_val",
	api.InsUniAtom: "uni_atom",
	api.InsUniInt:  "uni_int",
	api.InsPutVar:  "put_var",
	api.InsPutVal:  "put_val",
	api.InsPutAtom: "put_atom",
	api.InsPutInt:  "put_int",
	api.InsPutStr:  "put_str",
	api.InsSetVar:  "set_var",
	api.InsSetVal:  "set_val",
	api.InsSetAtom: "set_atom",
	api.InsSetInt:  "set_int",
	api.InsAlloc:   "alloc",
	api.InsDealloc: "dealloc",
	api.InsCall:    "call",
	api.InsExec:    "exec",
	api.InsBody:    "body",
	api.InsGoal:    "goal",
	api.InsProceed: "proceed",
	api.InsLevel:   "level",
	api.InsHere:    "here",
	api.InsNeck:    "neck",
	api.InsCut:     "cut",
	api.InsFail:    "fail",
}

// fields tells, by a bit each, which fields an operation has and what it does to them, and where it stands.
type fields uint

const (
	readV    fields = 1 << iota // V is a register that is read
	writtenV                    // V is a register that is written
	slotV                       // V is a slot
	readA                       // A is an argument's register that is read
	writtenA                    // A is an argument's register that is written
	livingA                     // A is how many slots live
	nameS                       // S is a name
	integerN                    // N is an integer
	arityN                      // N is the name's arity
	someN                       // N is the name's arity, and not 0
	slotsN                      // N is how many slots there are
	isRead                      // it stands behind get_str alone
	isSet                       // it stands behind put_str alone
	isLast                      // nothing stands behind it
)

// has tells whether one of these bits, or more, is among the fields'.
func (f fields) has(bits fields) bool {
	return f&bits != 0
}

// fieldsOf answers an operation's fields.
func fieldsOf(op int) fields {
	table := [...]fields{
		api.InsGetVar:  writtenV | readA,
		api.InsGetVal:  readV | readA,
		api.InsGetAtom: nameS | readA,
		api.InsGetInt:  integerN | readA,
		api.InsGetStr:  nameS | someN | readA,
		api.InsUniVar:  writtenV | isRead,
		api.InsUniVal:  readV | isRead,
		api.InsUniAtom: nameS | isRead,
		api.InsUniInt:  integerN | isRead,
		api.InsPutVar:  writtenV | writtenA,
		api.InsPutVal:  readV | writtenA,
		api.InsPutAtom: nameS | writtenA,
		api.InsPutInt:  integerN | writtenA,
		api.InsPutStr:  nameS | someN | writtenA,
		api.InsSetVar:  writtenV | isSet,
		api.InsSetVal:  readV | isSet,
		api.InsSetAtom: nameS | isSet,
		api.InsSetInt:  integerN | isSet,
		api.InsAlloc:   slotsN,
		api.InsDealloc: 0,
		api.InsCall:    nameS | arityN | livingA,
		api.InsExec:    nameS | arityN | isLast,
		api.InsBody:    livingA,
		api.InsGoal:    isLast,
		api.InsProceed: isLast,
		api.InsLevel:   writtenV | slotV,
		api.InsHere:    writtenV,
		api.InsNeck:    0,
		api.InsCut:     readV | slotV,
		api.InsFail:    isLast,
	}
	return table[op]
}

// operation answers the operation of that name; 0 if there is none.
func operation(name string) int {
	for op, n := range names {
		if n == name {
			return op
		}
	}
	return 0
}

// mayName tells whether S may be so.
func mayName(f fields, s string) bool {
	if f.has(nameS) {
		return len(s) <= api.MaxName
	}
	return s == ""
}

// mayNumber tells whether N may be so.
func mayNumber(f fields, n int) bool {
	switch {
	case f.has(integerN):
		return isWithin(n, -api.MaxInt, api.MaxInt)
	case f.has(arityN):
		return isWithin(n, 0, api.MaxArity)
	case f.has(someN):
		return isWithin(n, 1, api.MaxArity)
	case f.has(slotsN):
		return isWithin(n, 0, api.MaxSlots)
	}
	return n == 0
}

// mayRegister tells whether V may be so.
func mayRegister(f fields, v int) bool {
	if f.has(readV | writtenV) {
		return isWithin(v, 1, api.MaxRegs) || isWithin(v, -api.MaxSlots, -1)
	}
	return v == 0
}

// mayArgument tells whether A may be so.
func mayArgument(f fields, a int) bool {
	switch {
	case f.has(readA | writtenA):
		return isWithin(a, 1, api.MaxRegs)
	case f.has(livingA):
		return isWithin(a, 0, api.MaxSlots)
	}
	return a == 0
}

// isWithin tells whether a number is one of those from the least to the greatest one.
func isWithin(n, least, greatest int) bool {
	return least <= n && n <= greatest
}
