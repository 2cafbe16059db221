package rank

import "cmp"

// maxIds is how many ids a rank may have, from 0 on.
const maxIds = 64

// entry is an id with its key.
type entry struct {
	id, key int
}

// compare is below 0, if a comes ahead of b, and above 0, if b does.
func compare(a, b entry) int {
	// The keys are not subtracted: a difference may wrap round.
	return cmp.Or(cmp.Compare(a.key, b.key), cmp.Compare(a.id, b.id))
}

// heaped is entries, of which none comes ahead of the one above it: that of the entry at place i, above 0, is at (i-1)/2.
type heaped struct {
	entries []entry
	places  [maxIds]int // by id: one more than where its entry is; 0, if it has none
}

// place tells where an id's entry is, if it has one.
func (h *heaped) place(id int) (place int, is bool) {
	if !mayBe(id) || h.places[id] == 0 {
		return 0, false
	}
	return h.places[id] - 1, true
}

// push puts in an entry whose id has none.
func (h *heaped) push(e entry) {
	last := len(h.entries)
	h.entries = append(h.entries, e)
	h.set(last, e)
	h.rise(last)
}

// lower lets the key of the entry at a place be one that is not above it.
func (h *heaped) lower(place, key int) {
	h.entries[place].key = key
	h.rise(place)
}

// take takes out the entry at a place.
func (h *heaped) take(place int) {
	last := len(h.entries) - 1
	h.swap(place, last)
	h.places[h.entries[last].id] = 0
	h.entries = h.entries[:last]
	if place < last {
		// What came there from the end may belong on either side.
		h.rise(place)
		h.sink(place)
	}
}

// rise swaps the entry at a place with those above it that it comes ahead of.
func (h *heaped) rise(place int) {
	for place > 0 {
		above := (place - 1) / 2
		if !h.isAhead(place, above) {
			return
		}
		h.swap(place, above)
		place = above
	}
}

// sink swaps the entry at a place with those below it that come ahead of it.
func (h *heaped) sink(place int) {
	for {
		first := place
		for below := 2*place + 1; below <= 2*place+2 && below < len(h.entries); below++ {
			if h.isAhead(below, first) {
				first = below
			}
		}
		if first == place {
			return
		}
		h.swap(place, first)
		place = first
	}
}

// isAhead tells whether the entry at place a comes ahead of the one at b.
func (h *heaped) isAhead(a, b int) bool {
	return compare(h.entries[a], h.entries[b]) < 0
}

// swap lets the entries at two places change these.
func (h *heaped) swap(a, b int) {
	atA, atB := h.entries[a], h.entries[b]
	h.set(a, atB)
	h.set(b, atA)
}

// set lets an entry be at a place.
func (h *heaped) set(place int, e entry) {
	h.entries[place] = e
	h.places[e.id] = place + 1
}
