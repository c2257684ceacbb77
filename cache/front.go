package cache

import (
	"bytes"
	"strings"

	"cairn/api"
	"cairn/store"
)

// Front is a store behind a cache of what was written or read last. It takes one call at a time, as its store does.
type Front struct {
	store  *store.Store // nil: of the zero value
	memory *Cache[string, []byte]
}

// Before is the store behind a cache of that room, which has no entries. (P28.5)
func Before(s *store.Store, room int) (*Front, api.Errno) {
	if s == nil {
		return nil, api.ErrNil
	}
	memory, err := New[string, []byte](room)
	if err != api.OK {
		return nil, err
	}
	return &Front{store: s, memory: memory}, api.OK
}

// Put writes an object under a key that has none. (P28.6)
func (f *Front) Put(key string, data []byte) api.Errno {
	if f.isNone() {
		return api.ErrNil
	}
	f.memory.Drop(key)
	own := bytes.Clone(data) // before the store's Put: a drive that a caller has made could reach the bytes and turn them meanwhile
	err := store.Code(f.store.Put(key, own))
	if err == api.OK {
		f.keep(key, own)
	}
	return err
}

// Get is an object; no drive is called for one that the cache has. (P28.6)
func (f *Front) Get(key string) ([]byte, api.Errno) {
	if f.isNone() {
		return nil, api.ErrNil
	}
	if kept, is := f.memory.Get(key); is {
		return bytes.Clone(kept), api.OK
	}
	data, err := f.store.Get(key)
	if err != nil {
		return nil, store.Code(err)
	}
	f.keep(key, bytes.Clone(data))
	return data, api.OK
}

// Delete takes an object away. (P28.6)
func (f *Front) Delete(key string) api.Errno {
	if f.isNone() {
		return api.ErrNil
	}
	f.memory.Drop(key) // also if the store then refuses: what the key has come to is not known
	return store.Code(f.store.Delete(key))
}

// Heal makes all shards stand again, and says what it did, also where not all went well. (P28.6)
func (f *Front) Heal() (api.Healed, api.Errno) {
	if f.isNone() {
		return api.Healed{}, api.ErrNil
	}
	f.memory.Clear() // a healing settles what a key that could come to several things has come to
	did, err := f.store.Heal()
	return did, store.Code(err)
}

// Held are the cache's keys, the one used last first. (P28.6)
func (f *Front) Held() []string {
	if f.isNone() {
		return nil
	}
	return f.memory.Keys()
}

// isNone tells whether there is no store behind the front.
func (f *Front) isNone() bool {
	return f == nil || f.store == nil
}

// keep puts an object into the cache, whose bytes are its own from then on. The key becomes its own, too: the caller's could be a piece of a great text, which would be held along with it.
func (f *Front) keep(key string, own []byte) {
	f.memory.Put(strings.Clone(key), own, len(key)+len(own))
}
