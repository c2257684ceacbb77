package parts

import (
	"slices"
	"strings"
	"testing"

	"cairn/api"
)

// The forms of own keys, byte by byte; and each is taken apart as it was put together.
func TestForms(t *testing.T) {
	for _, x := range []struct {
		key  ownKey
		text string
	}{
		{numberKey(1), "\x00n\x00\x00\x00\x01"},
		{numberKey(1<<32 - 1), "\x00n\xff\xff\xff\xff"},
		{recordKey(0x01020304), "\x00u\x01\x02\x03\x04"},
		{markKey(256), "\x00f\x00\x00\x01\x00"},
		{partKey(1, 1), "\x00p\x00\x00\x00\x01\x00\x01"},
		{partKey(1<<31, 10000), "\x00p\x80\x00\x00\x00\x27\x10"},
		{manifestKey("a"), "\x00ma"},
		{manifestKey("\x01\x00"), "\x00m\x01\x00"},
		{manifestKey(strings.Repeat("\xff", 253)), "\x00m" + strings.Repeat("\xff", 253)},
	} {
		if got := x.key.text(); got != x.text {
			t.Errorf("%v is %q, not %q", x.key, got, x.text)
		}
		if got, is := takeApart(x.text); got != x.key || !is {
			t.Errorf("%q is %v, %v, not %v", x.text, got, is, x.key)
		}
	}
	if a, b := prefixOf(kindNumber), prefixOfParts(0x01020304); a != "\x00n" || b != "\x00p\x01\x02\x03\x04" {
		t.Errorf("the prefixes are %q and %q", a, b)
	}
}

// What has none of the forms is no own key of this layer.
func TestNoForms(t *testing.T) {
	for _, text := range []string{
		"", "\x00", "n", "\x01n\x00\x00\x00\x01", "\x00n", "\x00n\x00\x00\x01", "\x00n\x00\x00\x00\x01\x00", "\x00n\x00\x00\x00\x00", "\x00u\x00\x00\x00\x00", "\x00f\x00\x00\x00\x00",
		"\x00u", "\x00f\x01", "\x00p", "\x00p\x00\x00\x00\x01", "\x00p\x00\x00\x00\x01\x01", "\x00p\x00\x00\x00\x01\x00\x00", "\x00p\x00\x00\x00\x00\x00\x01", "\x00p\x00\x00\x00\x01\x27\x11",
		"\x00p\x00\x00\x00\x01\x00\x01\x00", "\x00m", "\x00m\x00", "\x00m\x00a", "\x00m" + strings.Repeat("k", 254), "\x00x\x00\x00\x00\x01", "\x00\x00\x00\x00\x00\x01", "\x00N\x00\x00\x00\x01",
	} {
		if got, is := takeApart(text); is || got != (ownKey{}) {
			t.Errorf("%q is %v, %v", text, got, is)
		}
	}
}

// Own keys rise as their numbers do.
func TestKeysRise(t *testing.T) {
	numbers := []int{1, 2, 127, 128, 255, 256, 257, 65535, 65536, 1<<24 - 1, 1 << 24, 1<<31 - 1, 1 << 31, 1<<32 - 1}
	parts := []int{1, 2, 127, 128, 255, 256, 257, 9999, 10000}
	var numbered, parted []string
	for _, n := range numbers {
		numbered = append(numbered, numberKey(n).text())
		for _, p := range parts {
			parted = append(parted, partKey(n, p).text())
		}
	}
	if !slices.IsSorted(numbered) || !slices.IsSorted(parted) {
		t.Errorf("%q and %q do not rise", numbered, parted)
	}
}

// A manifest is read as it was written; no shorter one, no longer one, and none of too many parts is read.
func TestManifest(t *testing.T) {
	for _, m := range []manifest{
		{upload: 1, key: "a"},
		{upload: 1<<32 - 1, key: strings.Repeat("\xff", 253), parts: []api.Part{{Number: 1, Size: 1 << 20, Sum: 1<<32 - 1}, {Number: 10000}}},
		{upload: 0x01020304, key: "film", parts: []api.Part{{Number: 258, Size: 0x00020304, Sum: 0x05060708}}},
	} {
		b := m.bytes()
		got, is := readManifest(b)
		if !is || got.upload != m.upload || got.key != m.key || !slices.Equal(got.parts, m.parts) {
			t.Errorf("%v is read as %v, %v", m, got, is)
		}
		for n := range b {
			if got, is := readManifest(b[:n]); is || got.upload != 0 || got.key != "" || got.parts != nil {
				t.Errorf("%x is read as %v, %v", b[:n], got, is)
			}
		}
		if got, is := readManifest(append(b, 0)); is {
			t.Errorf("one with a byte more is read as %v", got)
		}
	}
	want := []byte{4, 3, 2, 1, 4, 'f', 'i', 'l', 'm', 1, 2, 1, 4, 3, 2, 0, 8, 7, 6, 5}
	if b := (manifest{upload: 0x01020304, key: "film", parts: []api.Part{{Number: 258, Size: 0x00020304, Sum: 0x05060708}}}).bytes(); !slices.Equal(b, want) {
		t.Errorf("the bytes are %v, not %v", b, want)
	}
	most := manifest{upload: 1, key: "a", parts: make([]api.Part, api.MaxParts)}
	if got, is := readManifest(most.bytes()); !is || len(got.parts) != api.MaxParts {
		t.Errorf("of %d parts %d are read, %v", api.MaxParts, len(got.parts), is)
	}
	most.parts = append(most.parts, api.Part{})
	if _, is := readManifest(most.bytes()); is {
		t.Error("one of too many parts is read")
	}
	if _, is := readManifest((manifest{upload: 1, key: strings.Repeat("k", 254)}).bytes()); is {
		t.Error("one of a key that is too long is read")
	}
}
