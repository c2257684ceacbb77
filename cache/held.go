package cache

import "cmp"

// entry is a key, its value and its weight. The entries stand in a ring, in the order in which they were used.
type entry[K cmp.Ordered, V any] struct {
	key          K
	value        V
	weight       int
	newer, older *entry[K, V]
}

// unlink takes the entry out of its ring.
func (e *entry[K, V]) unlink() {
	e.newer.older = e.older
	e.older.newer = e.newer
}

// held is what a cache holds.
type held[K cmp.Ordered, V any] struct {
	room, weight int
	entries      map[K]*entry[K, V]
	ends         entry[K, V] // closes the ring: its older one is the entry used last, its newer one that used longest ago
}

// anew holds nothing yet.
func anew[K cmp.Ordered, V any](room int) *held[K, V] {
	h := &held[K, V]{room: room}
	h.clear()
	return h
}

// clear gives up all entries. The map is a new one: one that is emptied keeps the room that it had grown to.
func (h *held[K, V]) clear() {
	h.weight = 0
	h.entries = map[K]*entry[K, V]{}
	h.ends.newer, h.ends.older = &h.ends, &h.ends
}

// take makes an entry of a key that has none the one used last, and gives up what it leaves no room for: false, if it has none itself.
func (h *held[K, V]) take(e *entry[K, V]) bool {
	if e.weight < 0 || e.weight > h.room {
		return false
	}
	for h.weight > h.room-e.weight {
		h.giveUp(h.ends.newer)
	}
	h.entries[e.key] = e
	h.weight += e.weight
	h.link(e)
	return true
}

// giveUp lets an entry go.
func (h *held[K, V]) giveUp(e *entry[K, V]) {
	e.unlink()
	delete(h.entries, e.key)
	h.weight -= e.weight
}

// use makes an entry the one used last.
func (h *held[K, V]) use(e *entry[K, V]) {
	e.unlink()
	h.link(e)
}

// link puts an entry that stands in no ring into this one, as the one used last.
func (h *held[K, V]) link(e *entry[K, V]) {
	e.newer, e.older = &h.ends, h.ends.older
	e.newer.older, e.older.newer = e, e
}

// keys are the entries' keys, the one used last first.
func (h *held[K, V]) keys() []K {
	keys := make([]K, 0, len(h.entries))
	for e := h.ends.older; e != &h.ends; e = e.older {
		keys = append(keys, e.key)
	}
	return keys
}
