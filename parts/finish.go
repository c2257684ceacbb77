package parts

import (
	"bytes"
	"slices"

	"cairn/api"
	"cairn/store"
)

// Finish makes an object of parts: it is there whole, or not at all. (P26.5)
func (u *Uploads) Finish(key string, upload int, parts []api.Part) api.Errno {
	if err := u.check(key); err != api.OK {
		return err
	}
	if err := checkParts(parts); err != api.OK {
		return err
	}
	m := manifest{upload: upload, key: key, parts: slices.Clone(parts)}
	if err := u.askRecord(key, upload); err != api.OK {
		return err
	}
	switch err := u.askPlain(key); err {
	case api.OK:
		return api.ErrExists
	case api.ErrNotFound:
	default:
		return err
	}
	switch _, err := u.askOwn(key, upload); err {
	case api.OK:
		return u.finishAgain(key, upload)
	case api.ErrNotFound:
		return u.finish(m)
	default:
		return err
	}
}

// checkParts is OK, if a list of parts may be.
func checkParts(parts []api.Part) api.Errno {
	last, size := 0, 0
	for _, p := range parts {
		if !isPart(p.Number) || p.Number <= last || p.Size < 0 || p.Size > api.MaxObject {
			return api.ErrArg
		}
		last = p.Number
		size += p.Size // of at most MaxParts parts: it is no more than an int holds
	}
	if size > api.MaxBig {
		return api.ErrBig
	}
	return api.OK
}

// askPlain is OK, if there is a plain object of the key.
func (u *Uploads) askPlain(key string) api.Errno {
	_, _, err := u.store.Stat(key)
	return store.Code(err)
}

// askOwn asks the manifest of the key: OK, if it is of this upload.
func (u *Uploads) askOwn(key string, upload int) (manifest, api.Errno) {
	m, err := u.askManifest(key)
	if err == api.OK && m.upload != upload {
		return manifest{}, api.ErrExists
	}
	return m, err
}

// finishAgain goes on where the manifest stands already. What a Get told may hang on what is not safe: healed, it is settled.
func (u *Uploads) finishAgain(key string, upload int) api.Errno {
	if err := u.heal(); err != api.OK {
		return err
	}
	m, err := u.askOwn(key, upload)
	if err != api.OK {
		return err
	}
	u.clean(m)
	return api.OK
}

// finish writes the mark and then the manifest, which is the moment at which the object is there.
func (u *Uploads) finish(m manifest) api.Errno {
	for _, p := range m.parts {
		if err := u.askPart(m.upload, p); err != api.OK {
			return err
		}
	}
	b := m.bytes()
	if err := u.mark(m.upload, b); err != api.OK {
		return err
	}
	if err := u.put(manifestKey(m.key), b); err != api.OK {
		return err
	}
	u.clean(m)
	return api.OK
}

// askPart is OK, if the part stands as the list says.
func (u *Uploads) askPart(upload int, p api.Part) api.Errno {
	data, err := u.get(partKey(upload, p.Number))
	if err == api.ErrNotFound || err == api.OK && partOf(p.Number, data) != p {
		return api.ErrPart
	}
	return err
}

// mark puts the mark that the upload is being finished with this manifest: OK, if it stands, and none of another one.
func (u *Uploads) mark(upload int, b []byte) api.Errno {
	err := u.put(markKey(upload), b)
	if err != api.ErrExists {
		return err
	}
	if err := u.heal(); err != api.OK {
		return err
	}
	kept, err := u.get(markKey(upload))
	if err == api.OK && !bytes.Equal(kept, b) {
		return api.ErrExists
	}
	return err
}

// clean takes away what a finished upload needs no more. Of what fails nothing is told: the object is there, and a Sweep takes the rest away.
func (u *Uploads) clean(m manifest) {
	told, err := u.list(prefixOfParts(m.upload))
	if err != api.OK {
		return
	}
	away := unlisted(told, m.listed())
	u.deleteEach(append(away, recordKey(m.upload), markKey(m.upload)))
}
