package wound

import "cairn/api"

// The eight calls of the drive: P12.6. Each goes to the drive only if nothing strikes ahead of it.

// Create is the drive's, unless it is struck.
func (w *Wound) Create(name string) api.Errno {
	if _, err := w.ahead(true); err != api.OK {
		return err
	}
	return w.Drive.Create(name)
}

// Append is the drive's, unless it is struck; a fuse may let its first bytes pass.
func (w *Wound) Append(name string, data []byte) api.Errno {
	burnt, err := w.ahead(true)
	if burnt {
		w.Drive.Append(name, w.fuse.passed(data))
	}
	if err != api.OK {
		return err
	}
	return w.Drive.Append(name, data)
}

// Sync is the drive's, unless it is struck.
func (w *Wound) Sync(name string) api.Errno {
	if _, err := w.ahead(false); err != api.OK {
		return err
	}
	return w.Drive.Sync(name)
}

// Rename is the drive's, unless it is struck.
func (w *Wound) Rename(old, to string) api.Errno {
	if _, err := w.ahead(false); err != api.OK {
		return err
	}
	return w.Drive.Rename(old, to)
}

// Remove is the drive's, unless it is struck.
func (w *Wound) Remove(name string) api.Errno {
	if _, err := w.ahead(false); err != api.OK {
		return err
	}
	return w.Drive.Remove(name)
}

// SyncDir is the drive's, unless it is struck.
func (w *Wound) SyncDir() api.Errno {
	if _, err := w.ahead(false); err != api.OK {
		return err
	}
	return w.Drive.SyncDir()
}

// Read is the drive's, unless it is struck.
func (w *Wound) Read(name string) ([]byte, api.Errno) {
	if _, err := w.ahead(false); err != api.OK {
		return nil, err
	}
	return w.Drive.Read(name)
}

// List is the drive's, unless it is struck.
func (w *Wound) List() ([]string, api.Errno) {
	if _, err := w.ahead(false); err != api.OK {
		return nil, err
	}
	return w.Drive.List()
}

// ahead is what comes ahead of the drive at a call, which takes room if it is a Create or an Append: the error with which the call is refused (OK: it goes to the drive), and whether a fuse burnt down at it.
func (w *Wound) ahead(takesRoom bool) (burnt bool, err api.Errno) {
	switch {
	case w == nil:
		return false, api.ErrNil
	case w.off:
		return false, api.ErrDown
	case w.offline:
		return false, api.ErrOffline
	}
	call, roundCall := w.calls, w.roundCalls
	w.calls++
	w.roundCalls++
	if w.Struck() && w.fuse.call == roundCall {
		w.off = true
		return true, api.ErrDown
	}
	return false, w.planned(call, takesRoom)
}

// planned is the error that the plan has for the call of that number.
func (w *Wound) planned(call int, takesRoom bool) api.Errno {
	kind := w.plan[call] // 0, which is no kind, if there is none
	if kind == api.FaultIO {
		return api.ErrIO
	}
	if kind == api.FaultFull && takesRoom {
		return api.ErrFull
	}
	return api.OK
}

// passed are the bytes of an Append that are put although the power goes.
func (f fuse) passed(data []byte) []byte {
	return data[:min(max(f.inside, 0), len(data))]
}
