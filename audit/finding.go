package audit

import (
	"cmp"
	"slices"

	"cairn/api"
	"cairn/votes"
)

// finding is what the places' answers, and the verdict of them, say of a key.
func finding(key string, enough int, v api.Verdict, seen []api.Seen) api.Finding {
	f := api.Finding{Key: key, Kind: api.IsMaybe, Gen: v.Gen, Whole: len(v.Places)}
	f.Stale = countKind(seen, api.SeenShard) - f.Whole
	f.Spoilt = countKind(seen, api.SeenSpoilt)
	f.Silent = countKind(seen, api.SeenSilent)
	if !settled(enough, v, seen, f.Silent) {
		return f
	}
	switch v.Kind {
	case api.IsValue:
		f.Kind = api.IsSure
	case api.IsAbsent:
		f.Kind = api.IsNone
	}
	return f
}

// countKind is how many places show something of that kind.
func countKind(seen []api.Seen, kind int) int {
	n := 0
	for i := range seen {
		if seen[i].Kind == kind {
			n++
		}
	}
	return n
}

// settled tells whether no writing could take the verdict's place, whatever the silent places showed: the worst is that all of them show one and the same, which some places show already or none does.
func settled(enough int, v api.Verdict, seen []api.Seen, silent int) bool {
	most := 0 // of a writing that no place shows
	for _, g := range votes.Groups(seen) {
		if v.Kind == api.IsValue && g.Gen == v.Gen && g.Size == v.Size {
			break // the older ones can't take its place
		}
		most = max(most, len(g.Places))
	}
	return most+silent < enough
}

// Worst is the first finding of which none is worse. (P25.3)
func Worst(l []api.Finding) (api.Finding, bool) {
	if len(l) == 0 {
		return api.Finding{}, false
	}
	return slices.MinFunc(l, worseFirst), true
}

// worseFirst puts two findings in order: it is below 0, if a is worse.
func worseFirst(a, b api.Finding) int {
	return cmp.Or(
		cmp.Compare(doubt(b.Kind), doubt(a.Kind)),
		cmp.Compare(a.Whole, b.Whole),
		cmp.Compare(b.Stale+b.Spoilt+b.Silent, a.Stale+a.Spoilt+a.Silent),
		cmp.Compare(a.Key, b.Key),
	)
}

// doubt is the greater, the worse a finding's kind is.
func doubt(kind int) int {
	switch kind {
	case api.IsMaybe:
		return 2
	case api.IsSure:
		return 1
	}
	return 0
}
