package parts

import "cairn/api"

// Own keys begin with a byte with which no user's key does; the second one says of which form they are.
const (
	ownByte      = 0
	kindNumber   = 'n'
	kindRecord   = 'u'
	kindPart     = 'p'
	kindMark     = 'f'
	kindManifest = 'm'

	headBytes   = 2 // ahead of what a form holds
	uploadBytes = 4
	partBytes   = 2

	maxKey = api.MaxKey - headBytes // of a user's: a manifest's key is no longer than a key may be
)

// ownKey is what an own key says: of a manifest the user's key, of all others the upload, of a part its number too.
type ownKey struct {
	kind         byte
	upload, part int
	key          string
}

func numberKey(upload int) ownKey     { return ownKey{kind: kindNumber, upload: upload} }
func recordKey(upload int) ownKey     { return ownKey{kind: kindRecord, upload: upload} }
func markKey(upload int) ownKey       { return ownKey{kind: kindMark, upload: upload} }
func partKey(upload, part int) ownKey { return ownKey{kind: kindPart, upload: upload, part: part} }
func manifestKey(key string) ownKey   { return ownKey{kind: kindManifest, key: key} }

// prefixOf is what all own keys of a kind begin with.
func prefixOf(kind byte) string {
	return string([]byte{ownByte, kind})
}

// prefixOfParts is what the own keys of an upload's parts begin with.
func prefixOfParts(upload int) string {
	return prefixOf(kindPart) + highFirst(upload, uploadBytes)
}

// text is the own key, put together.
func (k ownKey) text() string {
	switch k.kind {
	case kindManifest:
		return prefixOf(k.kind) + k.key
	case kindPart:
		return prefixOfParts(k.upload) + highFirst(k.part, partBytes)
	}
	return prefixOf(k.kind) + highFirst(k.upload, uploadBytes)
}

// takeApart is what an own key says, if it has one of the forms.
func takeApart(text string) (ownKey, bool) {
	if len(text) < headBytes || text[0] != ownByte {
		return ownKey{}, false
	}
	k, rest, is := ownKey{kind: text[1]}, text[headBytes:], false
	switch text[1] {
	case kindNumber, kindRecord, kindMark:
		if len(rest) == uploadBytes {
			k.upload = numberOf(rest)
			is = isUpload(k.upload)
		}
	case kindPart:
		if len(rest) == uploadBytes+partBytes {
			k.upload, k.part = numberOf(rest[:uploadBytes]), numberOf(rest[uploadBytes:])
			is = isUpload(k.upload) && isPart(k.part)
		}
	case kindManifest:
		k.key = rest
		is = checkKey(rest) == api.OK
	}
	if !is {
		return ownKey{}, false
	}
	return k, true
}

// checkKey is OK, if the key may be a user's.
func checkKey(key string) api.Errno {
	switch {
	case len(key) < 1 || len(key) > maxKey:
		return api.ErrKey
	case key[0] == ownByte:
		return api.ErrOwn
	}
	return api.OK
}

// isUpload tells whether the number may be an upload's.
func isUpload(n int) bool { return 1 <= n && n <= api.MaxCount }

// isPart tells whether the number may be a part's.
func isPart(n int) bool { return 1 <= n && n <= api.MaxParts }

// highFirst is a number in so many bytes, the highest first: so keys rise as their numbers do.
func highFirst(n, width int) string {
	b := make([]byte, width)
	for i := range b {
		b[width-1-i] = byte(n)
		n >>= 8
	}
	return string(b)
}

// numberOf is the number that highFirst has written so.
func numberOf(text string) int {
	n := 0
	for i := range len(text) {
		n = n<<8 | int(text[i])
	}
	return n
}
