package opening

import (
	"slices"

	"cairn/api"
	"cairn/fan"
	"cairn/label"
)

// nowhere is the number that a layout has where no drive stands.
const nowhere = -1

// identity is all by which stores are told apart.
type identity struct {
	store [8]byte
	shape api.Shape
}

// Arrange is the layout of the newest store that is met among the marks. (P18.1)
func Arrange(marks []api.Mark) (api.Layout, api.Errno) {
	if len(marks) > api.MaxDrives || slices.ContainsFunc(marks, isWrong) {
		return api.Layout{}, api.ErrArg
	}
	layout, err := newest(marks)
	if err != api.OK {
		return api.Layout{}, err
	}
	fillUp(layout.Places, marks)
	return layout, api.OK
}

// newest is the layout of the store that is met and has the greatest epoch, with its labelled drives alone.
func newest(marks []api.Mark) (api.Layout, api.Errno) {
	best, err := api.Layout{}, api.ErrQuorum
	for _, id := range storesOf(marks) {
		layout := labelled(id, marks)
		switch {
		case !isMet(layout):
		case err == api.ErrQuorum || layout.Epoch > best.Epoch:
			best, err = layout, api.OK
		case layout.Epoch == best.Epoch:
			err = api.ErrDrives
		}
	}
	return best, err
}

// storesOf is the stores of which there is a label, each once.
func storesOf(marks []api.Mark) []identity {
	var stores []identity
	for _, m := range marks {
		if id := identityOf(m); m.Kind == api.MarkLabel && !slices.Contains(stores, id) {
			stores = append(stores, id)
		}
	}
	return stores
}

// labelled is the layout of a store with the marks that bear its labels.
func labelled(id identity, marks []api.Mark) api.Layout {
	layout := api.Layout{Store: id.store, Shape: id.shape, Places: slices.Repeat([]int{nowhere}, id.shape.K+id.shape.M)}
	for i, m := range marks {
		if m.Kind != api.MarkLabel || identityOf(m) != id {
			continue
		}
		layout.Epoch = max(layout.Epoch, m.Label.Epoch)
		other := layout.Places[m.Label.Index]
		if other == nowhere || marks[other].Label.Epoch < m.Label.Epoch {
			layout.Places[m.Label.Index] = i
		}
	}
	return layout
}

// isMet tells whether the labels name enough places to read what the store holds.
func isMet(layout api.Layout) bool {
	return len(layout.Places)-fan.Count(layout.Places, nowhere) >= layout.Shape.K
}

// fillUp gives the places that are left to the blank marks, as far as there are.
func fillUp(places []int, marks []api.Mark) {
	for i, m := range marks {
		if m.Kind != api.MarkBlank {
			continue
		}
		left := slices.Index(places, nowhere)
		if left < 0 {
			return
		}
		places[left] = i
	}
}

// identityOf is the store that a mark's label names.
func identityOf(m api.Mark) identity {
	return identity{store: m.Label.Store, shape: m.Label.Shape}
}

// isWrong tells whether there can be no such mark.
func isWrong(m api.Mark) bool {
	switch m.Kind {
	case api.MarkLabel:
		return !mayBe(m.Label)
	case api.MarkBlank, api.MarkSilent:
		return false // whatever stands there for a label
	}
	return true
}

// mayBe tells whether there can be such a label: just those have a form.
func mayBe(l api.Label) bool {
	_, err := label.Encode(l)
	return err == api.OK
}
