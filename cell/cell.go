// Package cell is layer 1: machine words, each of a tag and a number.
package cell

import (
	"strconv"
	"strings"

	"elenchus/api"
)

const (
	tagBits = 3
	lastTag = 1<<tagBits - 1
	least   = -api.MostCell - 1
	noCell  = "."
)

// names are the tags' names, by the tags; tag 0 has none, since a word with it is no cell.
var names = [lastTag + 1]string{"", "ref", "str", "atom", "int", "fun", "free", "tag7"}

// Make makes a cell.
func Make(tag, n int) (uint64, api.Errno) {
	if !isTag(tag) || n < least || n > api.MostCell {
		return 0, api.ErrArg
	}
	return uint64(n)<<tagBits | uint64(tag), api.OK
}

// Tag answers the word's tag, 0 if it is no cell.
func Tag(w uint64) int {
	return int(w & lastTag)
}

// Number answers the cell's number, 0 if the word is no cell.
func Number(w uint64) int {
	if Tag(w) == 0 {
		return 0
	}
	// The shift goes by the signed word, so that a number below 0 stays below 0.
	return int(int64(w) >> tagBits)
}

// Is tells whether the word is a cell with that tag.
func Is(w uint64, tag int) bool {
	return isTag(tag) && Tag(w) == tag
}

// Name answers the tag's name, the empty text if it is no cell's tag.
func Name(tag int) string {
	if !isTag(tag) {
		return ""
	}
	return names[tag]
}

// Text writes the word down.
func Text(w uint64) string {
	if Tag(w) == 0 {
		return noCell
	}
	return Name(Tag(w)) + ":" + strconv.Itoa(Number(w))
}

// Parse reads what Text writes, and nothing else.
func Parse(s string) (uint64, api.Errno) {
	if s == noCell {
		return 0, api.OK
	}
	name, digits, _ := strings.Cut(s, ":")
	n, err := strconv.Atoi(digits)
	if err != nil {
		return 0, api.ErrCell
	}
	w, e := Make(tagOf(name), n)
	// A number has more spellings than the one that is written (+1, 01, -0).
	if e != api.OK || Text(w) != s {
		return 0, api.ErrCell
	}
	return w, api.OK
}

// isTag tells whether a cell may have the tag.
func isTag(tag int) bool {
	return tag >= 1 && tag <= lastTag
}

// tagOf answers the tag of that name, 0 if there is none.
func tagOf(name string) int {
	for tag, other := range names {
		if other == name {
			return tag
		}
	}
	return 0
}
