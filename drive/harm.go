package drive

import (
	"bytes"
	"maps"

	"cairn/api"
)

// Crash is a loss of power with that fate. (P11.9)
func (d *Drive) Crash(f api.Fate) api.Errno {
	if d == nil {
		return api.ErrNil
	}
	for i, c := range d.pending {
		if i < len(f.Dirs) && f.Dirs[i] {
			d.safe.follow(c)
		}
	}
	d.pending, d.used = nil, 0
	for j, name := range d.safe.rising() {
		cut := 0
		if j < len(f.Cuts) {
			cut = f.Cuts[j]
		}
		left := d.safe[name].left(cut)
		d.safe[name] = safeBody(left)
		d.used += len(left)
	}
	d.stands = maps.Clone(d.safe)
	return api.OK
}

// left is what a loss of power leaves of the body: a copy, since another name may lead to it too.
func (b *body) left(cut int) []byte {
	loose := len(b.data) - b.safe
	kept := min(max(cut, 0), loose)
	return bytes.Clone(b.data[:b.safe+kept])
}

// Flip turns bits of a file, safe ones and loose ones. (P11.10)
func (d *Drive) Flip(name string, at int, pattern []byte) api.Errno {
	b, err := d.harmed(name, at)
	if err != api.OK {
		return err
	}
	hit := b.data[min(at, len(b.data)):]
	for i := range min(len(hit), len(pattern)) {
		hit[i] ^= pattern[i]
	}
	return api.OK
}

// Cut leaves a file its first n bytes. (P11.10)
func (d *Drive) Cut(name string, n int) api.Errno {
	b, err := d.harmed(name, n)
	if err != api.OK {
		return err
	}
	left := min(n, len(b.data))
	d.used -= len(b.data) - left
	b.data = b.data[:left]
	b.safe = min(b.safe, left)
	return api.OK
}

// Wipe takes all away but the room. (P11.10)
func (d *Drive) Wipe() api.Errno {
	if d == nil {
		return api.ErrNil
	}
	*d = Drive{room: d.room}
	return api.OK
}

// harmed is the body of a name that is to be harmed from that byte on.
func (d *Drive) harmed(name string, at int) (*body, api.Errno) {
	if err := d.fault(name); err != api.OK {
		return nil, err
	}
	if at < 0 { // an argument's fault, so ahead of what stands
		return nil, api.ErrArg
	}
	return d.find(name)
}
