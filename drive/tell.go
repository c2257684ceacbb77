package drive

import (
	"bytes"

	"cairn/api"
)

// Read is a file's bytes. (P11.8)
func (d *Drive) Read(name string) ([]byte, api.Errno) {
	b, err := d.find(name)
	if err != api.OK {
		return nil, err
	}
	return bytes.Clone(b.data), api.OK
}

// List is the names, rising. (P11.8)
func (d *Drive) List() ([]string, api.Errno) {
	if d == nil {
		return nil, api.ErrNil
	}
	return d.stands.rising(), api.OK
}

// Used is how many bytes the files have. (P11.8)
func (d *Drive) Used() int {
	if d == nil {
		return 0
	}
	return d.used
}

// Pending is how many changes of names are not safe. (P11.8)
func (d *Drive) Pending() int {
	if d == nil {
		return 0
	}
	return len(d.pending)
}

// Loose is how many bytes of a file are not safe. (P11.8)
func (d *Drive) Loose(name string) (int, api.Errno) {
	b, err := d.find(name)
	if err != api.OK {
		return 0, err
	}
	return len(b.data) - b.safe, api.OK
}

// Image is the files that stand, rising. (P11.8)
func (d *Drive) Image() []api.File {
	if d == nil {
		return nil
	}
	return d.stands.files(func(b *body) []byte { return b.data })
}

// Safe is what a loss of power leaves that keeps nothing, rising. (P11.8)
func (d *Drive) Safe() []api.File {
	if d == nil {
		return nil
	}
	return d.safe.files(func(b *body) []byte { return b.data[:b.safe] })
}

// files are those of the directory, rising, each with what is told of its body.
func (dir directory) files(told func(b *body) []byte) []api.File {
	files := make([]api.File, 0, len(dir))
	for _, name := range dir.rising() {
		files = append(files, api.File{Name: name, Data: bytes.Clone(told(dir[name]))})
	}
	return files
}
