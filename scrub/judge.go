package scrub

import (
	"cairn/api"
	"cairn/mend"
)

const (
	asAWhole = -1 // the place of what is found of a key, not of one of its shards
	nothing  = 0  // the kind of what is as it must be
)

// flags tell something of each drive.
type flags [api.MaxDrives]bool

// Judge is what is found at a key, by what the places show. (P29.1)
func Judge(set *api.Set, key string, v api.Verdict, seen []api.Seen) []api.Find {
	if check(set) != api.OK || len(seen) != len(set.Disks) {
		return nil
	}
	if v.Kind != api.IsValue {
		v = api.Verdict{Kind: v.Kind} // a generation beside another kind says nothing
	}
	wrong, unsure := misfits(set.Shape.K, v, seen)
	if v.Kind != api.IsValue && v.Kind != api.IsAbsent {
		unsure = true
	}
	var finds []api.Find
	if unsure {
		finds = append(finds, api.Find{Key: key, Place: asAWhole, Kind: api.FoundUnknown, Gen: v.Gen})
	}
	for place, s := range seen {
		if kind, gen := found(v, s, wrong[place]); kind != nothing {
			finds = append(finds, api.Find{Key: key, Place: place, Kind: kind, Gen: gen})
		}
	}
	return finds
}

// found is what is found at one place, and of which generation.
func found(v api.Verdict, s api.Seen, wrong bool) (int, api.Gen) {
	switch s.Kind {
	case api.SeenNone:
		if v.Kind == api.IsValue {
			return api.FoundMissing, v.Gen
		}
		return nothing, api.Gen{}
	case api.SeenShard:
		return foundShard(v, s, wrong)
	case api.SeenSpoilt:
		return api.FoundSpoilt, v.Gen
	}
	return api.FoundSilent, v.Gen
}

// foundShard is what is found at a place that shows a writing, and of which generation.
func foundShard(v api.Verdict, s api.Seen, wrong bool) (int, api.Gen) {
	switch {
	case wrong:
		return api.FoundWrong, v.Gen
	case v.Kind == api.IsAbsent, v.Kind == api.IsValue && !shows(s, v):
		return api.FoundStray, s.Shard.Gen
	}
	return nothing, api.Gen{}
}

// misfits tells which places show the verdict's writing with bytes that do not fit the others', and whether of some block it can't be told.
func misfits(k int, v api.Verdict, seen []api.Seen) (flags, bool) {
	var wrong flags
	unsure := false
	for j := range blocksOf(v, seen) {
		_, places, err := mend.Mend(k, rowsOf(j, v, seen))
		if err != api.OK {
			unsure = true // and what the other blocks tell stays true
		}
		wrong = wrong.with(places)
	}
	return wrong, unsure
}

// with is the flags and those of these places: another array, as an array is copied when it is handed over.
func (f flags) with(places []int) flags {
	for _, place := range places {
		f[place] = true
	}
	return f
}

// blocksOf is how many blocks the longest shard of the verdict's writing has.
func blocksOf(v api.Verdict, seen []api.Seen) int {
	n := 0
	for _, s := range seen {
		if shows(s, v) {
			n = max(n, len(s.Shard.Blocks))
		}
	}
	return n
}

// rowsOf are the rows of block j: one a place, lost where the verdict's writing does not have it.
func rowsOf(j int, v api.Verdict, seen []api.Seen) [][]byte {
	rows := make([][]byte, len(seen))
	for place, s := range seen {
		if shows(s, v) && j < len(s.Shard.Blocks) {
			rows[place] = s.Shard.Blocks[j]
		}
	}
	return rows
}

// shows tells whether a place shows the verdict's writing.
func shows(s api.Seen, v api.Verdict) bool {
	return v.Kind == api.IsValue && s.Kind == api.SeenShard && s.Shard.Gen == v.Gen && s.Shard.Size == v.Size
}
