package parts

import (
	"cairn/api"
	"cairn/codec"
)

// manifest is the object that an upload came to, or is to come to.
type manifest struct {
	upload int
	key    string
	parts  []api.Part
}

// bytes is the manifest in its one form.
func (m manifest) bytes() []byte {
	b := codec.Put(nil, uint32(m.upload))
	b = codec.PutBytes(b, []byte(m.key))
	b = codec.PutUvarint(b, uint64(len(m.parts)))
	for _, p := range m.parts {
		// By itself, and then put behind: each Put copies all that it is handed, which of many parts would be much.
		one := codec.Put(nil, uint16(p.Number))
		one = codec.Put(one, uint32(p.Size))
		one = codec.Put(one, p.Sum)
		b = append(b, one...)
	}
	return b
}

// readManifest is the manifest that has these bytes; false, if none has.
func readManifest(b []byte) (manifest, bool) {
	r := codec.Open(b)
	m := manifest{upload: int(codec.Take[uint32](r)), key: string(r.Block(maxKey))}
	count := r.Uvarint()
	if count > api.MaxParts {
		return manifest{}, false
	}
	for range count {
		p := api.Part{Number: int(codec.Take[uint16](r)), Size: int(codec.Take[uint32](r)), Sum: codec.Take[uint32](r)}
		m.parts = append(m.parts, p)
	}
	if r.End() != api.OK {
		return manifest{}, false
	}
	return m, true
}

// size is how many bytes the object has.
func (m manifest) size() int {
	n := 0
	for _, p := range m.parts {
		n += p.Size
	}
	return n
}

// listed are the numbers of its parts.
func (m manifest) listed() map[int]struct{} {
	numbers := make(map[int]struct{}, len(m.parts))
	for _, p := range m.parts {
		numbers[p.Number] = struct{}{}
	}
	return numbers
}

// unlisted are those of an upload's parts that are not listed.
func unlisted(parts []ownKey, listed map[int]struct{}) []ownKey {
	var l []ownKey
	for _, k := range parts {
		if _, is := listed[k.part]; !is {
			l = append(l, k)
		}
	}
	return l
}
