package drive

import (
	"strings"

	"cairn/api"
)

// Create makes the name lead to a new body without bytes. (P11.2)
func (d *Drive) Create(name string) api.Errno {
	if err := d.fault(name); err != api.OK {
		return err
	}
	if d.stands[name] == nil && len(d.stands) >= api.MaxFiles {
		return api.ErrMany
	}
	d.change(leadTo(name, &body{}))
	return api.OK
}

// Append puts bytes, loose ones, behind a file's. (P11.3)
func (d *Drive) Append(name string, data []byte) api.Errno {
	b, err := d.find(name)
	if err != api.OK {
		return err
	}
	if len(data) == 0 { // on a drive that was loaded fuller than its room, too
		return api.OK
	}
	if d.used+len(data) > d.room {
		return api.ErrFull
	}
	b.data = append(b.data, data...)
	d.used += len(data)
	return api.OK
}

// Sync makes a file's bytes safe. (P11.4)
func (d *Drive) Sync(name string) api.Errno {
	b, err := d.find(name)
	if err != api.OK {
		return err
	}
	b.safe = len(b.data)
	return api.OK
}

// Rename gives a file another name, by one change. (P11.5)
func (d *Drive) Rename(old, to string) api.Errno {
	if err := d.fault(old, to); err != api.OK {
		return err
	}
	b, err := d.find(old)
	if err != api.OK {
		return err
	}
	if old != to {
		d.change(leadTo(old, nil), leadTo(to, b))
	}
	return api.OK
}

// Remove takes a name away. (P11.6)
func (d *Drive) Remove(name string) api.Errno {
	if _, err := d.find(name); err != api.OK {
		return err
	}
	d.change(leadTo(name, nil))
	return api.OK
}

// SyncDir makes the names safe. (P11.7)
func (d *Drive) SyncDir() api.Errno {
	if d == nil {
		return api.ErrNil
	}
	for _, c := range d.pending {
		d.safe.follow(c)
	}
	d.pending = nil
	return api.OK
}

// leadTo is a lead with a name of its own: the caller's could be a piece of a great text, which would be held along with it.
func leadTo(name string, b *body) lead {
	return lead{name: strings.Clone(name), body: b}
}

// change makes a change in what stands; it is pending from then on.
func (d *Drive) change(c ...lead) {
	if d.stands == nil {
		d.stands, d.safe = directory{}, directory{}
	}
	for _, l := range c {
		d.used += l.body.size() - d.stands[l.name].size()
	}
	d.stands.follow(c)
	d.pending = append(d.pending, c)
}
