package parts

import (
	"maps"
	"slices"

	"cairn/api"
)

// found is what was told of an upload: its parts, as they rise, and whether its record and its mark stand.
type found struct {
	parts        []ownKey
	record, mark bool
}

// Sweep takes away what no object and no upload has; it says how much that was. (P26.11)
func (u *Uploads) Sweep() (int, api.Errno) {
	if u == nil {
		return 0, api.ErrNil
	}
	if err := u.heal(); err != api.OK {
		return 0, err
	}
	told, err := u.list(string([]byte{ownByte}))
	if err != api.OK {
		return 0, err
	}
	objects, err := u.objects(told)
	if err != api.OK {
		return 0, err
	}
	away, err := u.deleteEach(append(leftovers(foundOf(told), objects), oldNumbers(told)...))
	if err != api.OK {
		return 0, err
	}
	return away, api.OK
}

// objects are the uploads that have an object, each with the numbers of the parts that are listed there.
func (u *Uploads) objects(told []ownKey) (map[int]map[int]struct{}, api.Errno) {
	objects := map[int]map[int]struct{}{}
	for _, k := range told {
		if k.kind != kindManifest {
			continue
		}
		m, err := u.askManifest(k.key)
		switch err {
		case api.OK:
			objects[m.upload] = m.listed()
		case api.ErrNotFound:
		default:
			return nil, err
		}
	}
	return objects, api.OK
}

// foundOf is what was told of each upload.
func foundOf(told []ownKey) map[int]found {
	uploads := map[int]found{}
	for _, k := range told {
		f := uploads[k.upload]
		switch k.kind {
		case kindPart:
			f.parts = append(f.parts, k)
		case kindRecord:
			f.record = true
		case kindMark:
			f.mark = true
		default:
			continue
		}
		uploads[k.upload] = f
	}
	return uploads
}

// leftovers are what no object and no upload has, upload by upload.
func leftovers(uploads map[int]found, objects map[int]map[int]struct{}) []ownKey {
	var away []ownKey
	for _, n := range slices.Sorted(maps.Keys(uploads)) {
		f := uploads[n]
		listed, has := objects[n]
		if f.record && !has {
			continue // it is under way
		}
		away = append(away, unlisted(f.parts, listed)...)
		if f.record {
			away = append(away, recordKey(n))
		}
		if f.mark {
			away = append(away, markKey(n))
		}
	}
	return away
}

// oldNumbers are all numbers that were told but the greatest, without which one that was given out could come again.
func oldNumbers(told []ownKey) []ownKey {
	var numbers []ownKey
	for _, k := range told {
		if k.kind == kindNumber {
			numbers = append(numbers, k)
		}
	}
	return numbers[:max(0, len(numbers)-1)]
}
