package parts

import (
	"cairn/api"
	"cairn/store"
)

// Size is how many bytes an object has, in parts or not. (P26.8)
func (u *Uploads) Size(key string) (int, api.Errno) {
	if err := u.check(key); err != api.OK {
		return 0, err
	}
	_, size, err := u.store.Stat(key)
	if number := store.Code(err); number != api.ErrNotFound {
		return size, number
	}
	m, no := u.askManifest(key)
	return m.size(), no
}

// Read is the n bytes of an object from off on, or as many as there are, in parts or not. (P26.9)
func (u *Uploads) Read(key string, off, n int) ([]byte, api.Errno) {
	if err := u.check(key); err != api.OK {
		return nil, err
	}
	if off < 0 || n < 0 {
		return nil, api.ErrArg
	}
	data, err := u.store.Range(key, off, n)
	if number := store.Code(err); number != api.ErrNotFound {
		return data, number
	}
	m, no := u.askManifest(key)
	if no != api.OK {
		return nil, no
	}
	size := m.size()
	if off > size {
		return nil, api.ErrRange
	}
	return u.readParts(m, off, off+min(n, size-off)) // a sum of off and n could be too great for an int
}

// readParts is the bytes of a finished object from one place on and up to another.
func (u *Uploads) readParts(m manifest, from, end int) ([]byte, api.Errno) {
	var all []byte
	at := 0 // where the part begins
	for _, p := range m.parts {
		first, last := max(from, at), min(end, at+p.Size)
		if first < last {
			data, err := u.store.Range(partKey(m.upload, p.Number).text(), first-at, last-first)
			switch number := store.Code(err); number {
			case api.OK:
				all = append(all, data...)
			case api.ErrNotFound, api.ErrRange:
				return nil, api.ErrPart
			default:
				return nil, number
			}
		}
		at += p.Size
	}
	return all, api.OK
}
