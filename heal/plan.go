package heal

import (
	"slices"

	"cairn/api"
	"cairn/stripe"
	"cairn/votes"
)

// Plan is what a healing would do at which places of a key: to write, to take away. (P23.1)
func Plan(set *api.Set, v api.Verdict, seen []api.Seen) ([]int, []int) {
	if check(set) != api.OK || len(seen) != len(set.Disks) {
		return nil, nil
	}
	stale := slices.DeleteFunc(votes.Stale(seen, v), func(place int) bool { return set.Disks[place] == nil })
	switch v.Kind {
	case api.IsValue:
		return stale, nil
	case api.IsAbsent:
		// Where a drive did not answer nobody knows whether there is anything to take away.
		return nil, slices.DeleteFunc(stale, func(place int) bool { return !stands(seen[place]) })
	}
	return nil, nil
}

// stands tells whether a place has been seen to hold a file of the key.
func stands(s api.Seen) bool {
	return s.Kind == api.SeenShard || s.Kind == api.SeenSpoilt
}

// check is OK, if there is such a set.
func check(set *api.Set) api.Errno {
	switch {
	case set == nil:
		return api.ErrNil
	case !mayBe(set):
		return api.ErrArg
	}
	return api.OK
}

// mayBe tells whether there can be such a set.
func mayBe(set *api.Set) bool {
	if _, err := stripe.Blocks(set.Shape, 0); err != api.OK { // an empty object fits every shape
		return false
	}
	last := set.Last
	return len(set.Disks) == set.Shape.K+set.Shape.M &&
		1 <= last.Epoch && last.Epoch <= api.MaxEpoch &&
		0 <= last.Count && last.Count <= api.MaxCount
}
