package index

import (
	"cmp"
	"slices"

	"elenchus/api"
)

// entry is a number and a key, and where it stands: those at lower places stand ahead.
type entry struct {
	id    int
	key   api.Key
	place int
}

// Table is entries, one behind the other.
type Table struct {
	all   row             // all entries
	rows  map[api.Key]row // those of each key
	byID  map[int]entry   // by their numbers
	front int             // the place of the next one that is put ahead of all
	back  int             // the place of the next one that is put behind all
}

// New answers a table without entries.
func New() *Table {
	return &Table{rows: make(map[api.Key]row), byID: make(map[int]entry), front: -1}
}

// Add puts an entry behind all others, or ahead of them.
func (t *Table) Add(id int, k api.Key, front bool) api.Errno {
	if t.isClosed() {
		return api.ErrClosed
	}
	if _, there := t.byID[id]; there {
		return api.ErrTwice
	}
	if len(t.byID) >= api.MaxEntries {
		return api.ErrFull
	}
	e := entry{id: id, key: plain(k), place: t.place(front)}
	t.byID[id] = e
	t.all = t.all.with(e)
	t.rows[e.key] = t.rows[e.key].with(e)
	return api.OK
}

// Drop takes the entry of a number out.
func (t *Table) Drop(id int) api.Errno {
	if t.isClosed() {
		return api.ErrClosed
	}
	e, there := t.byID[id]
	if !there {
		return api.ErrNone
	}
	delete(t.byID, id)
	t.all = t.all.without(e)
	t.rows[e.key] = t.rows[e.key].without(e)
	if len(t.rows[e.key]) == 0 {
		delete(t.rows, e.key)
	}
	return api.OK
}

// Next answers the number of the first entry behind another one whose key meets k.
func (t *Table) Next(after int, k api.Key) (int, bool) {
	if t.isClosed() {
		return 0, false
	}
	e, there := t.byID[after]
	if !there {
		return 0, false
	}
	next, found := t.first(e.place+1, k)
	return next.id, found
}

// Head answers the number of the first entry whose key meets k.
func (t *Table) Head(k api.Key) (int, bool) {
	if t.isClosed() {
		return 0, false
	}
	e, found := t.first(t.front, k)
	return e.id, found
}

// All answers the numbers of all entries whose keys meet k, in order.
func (t *Table) All(k api.Key) []int {
	if t.isClosed() {
		return nil
	}
	var all []int
	e, found := t.first(t.front, k)
	for found {
		all = append(all, e.id)
		e, found = t.first(e.place+1, k)
	}
	return all
}

// Len answers how many entries there are.
func (t *Table) Len() int {
	if t.isClosed() {
		return 0
	}
	return len(t.byID)
}

// isClosed tells whether no call of New made the table.
func (t *Table) isClosed() bool {
	return t == nil || t.byID == nil
}

// place answers the place of a new entry.
func (t *Table) place(front bool) int {
	if front {
		t.front--
		return t.front + 1
	}
	t.back++
	return t.back - 1
}

// first answers the first entry from a place on whose key meets k.
func (t *Table) first(from int, k api.Key) (entry, bool) {
	if k.Kind == api.KeyAny {
		return t.all.from(from)
	}
	own, found := t.rows[k].from(from)
	// An entry of any key is met by every other key, too.
	anys, also := t.rows[api.Key{Kind: api.KeyAny}].from(from)
	if !found || also && anys.place < own.place {
		return anys, also
	}
	return own, found
}

// plain answers the key by which entries are found that meet the same keys.
func plain(k api.Key) api.Key {
	if k.Kind == api.KeyAny {
		return api.Key{Kind: api.KeyAny}
	}
	return k
}

// row is entries by rising places.
type row []entry

// find answers where the first entry from a place on stands in the row.
func (r row) find(place int) int {
	at, _ := slices.BinarySearchFunc(r, place, func(e entry, p int) int {
		return cmp.Compare(e.place, p)
	})
	return at
}

// from answers the first entry from a place on.
func (r row) from(place int) (entry, bool) {
	at := r.find(place)
	if at == len(r) {
		return entry{}, false
	}
	return r[at], true
}

// with answers the row with an entry more.
func (r row) with(e entry) row {
	return slices.Insert(r, r.find(e.place), e)
}

// without answers the row with an entry less, which stands in it.
func (r row) without(e entry) row {
	at := r.find(e.place)
	return slices.Delete(r, at, at+1)
}
