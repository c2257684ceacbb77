package naming_test

import (
	"slices"
	"strings"
	"testing"

	"cairn/api"
	"cairn/naming"
)

func checkObject(t *testing.T, key, name string, err api.Errno) {
	t.Helper()
	if gotName, gotErr := naming.Object(key); gotName != name || gotErr != err {
		t.Errorf("Object(%q) = %q, %d; not %q, %d", key, gotName, gotErr, name, err)
	}
}

func checkKey(t *testing.T, name, key string, is bool) {
	t.Helper()
	if gotKey, gotIs := naming.Key(name); gotKey != key || gotIs != is {
		t.Errorf("Key(%q) = %q, %v; not %q, %v", name, gotKey, gotIs, key, is)
	}
}

func checkKind(t *testing.T, name string, kind int) {
	t.Helper()
	if got := naming.Kind(name); got != kind {
		t.Errorf("Kind(%q) = %d, not %d", name, got, kind)
	}
}

func checkUnder(t *testing.T, names []string, prefix string, want ...string) {
	t.Helper()
	if got := naming.Under(names, prefix); !slices.Equal(got, want) {
		t.Errorf("Under(%q, %q) = %q, not %q", names, prefix, got, want)
	}
}

// The chapter's constants.
func TestTheTwoNames(t *testing.T) {
	if naming.Temp != "t" || naming.Label != "l" {
		t.Errorf("Temp is %q, Label is %q", naming.Temp, naming.Label)
	}
}

// P9.1: the chapter's examples.
func TestObjectExamples(t *testing.T) {
	checkObject(t, "a", "o61", api.OK)
	checkObject(t, "A b", "o412062", api.OK)
	checkObject(t, "\x00\xff", "o00ff", api.OK)
	checkObject(t, "", "", api.ErrKey)
	checkObject(t, strings.Repeat("a", 256), "", api.ErrKey)
}

// P9.1: keys of each number of bytes, and texts that are too short or too long; ErrKey is 90.
func TestObjectOfEachLength(t *testing.T) {
	r := source(91)
	for n := range 600 {
		key := someBytes(r, n)
		if n >= 1 && n <= 255 {
			checkObject(t, key, nameOf(key), api.OK)
		} else {
			checkObject(t, key, "", 90)
		}
	}
	checkObject(t, strings.Repeat("a", 1<<20), "", 90)
}

// P9.1: a key may have any bytes, each of which has its two digits.
func TestObjectOfEachByte(t *testing.T) {
	for i := range 256 {
		digits := string([]byte{"0123456789abcdef"[i>>4], "0123456789abcdef"[i&15]})
		b := string([]byte{byte(i)})
		checkObject(t, b, "o"+digits, api.OK)
		checkObject(t, "k"+b+"z", "o6b"+digits+"7a", api.OK)
	}
	checkObject(t, "é/..", "oc3a92f2e2e", api.OK)
	checkObject(t, "o61", "o6f3631", api.OK)
	checkObject(t, "t", "o74", api.OK)
	checkObject(t, "l", "o6c", api.OK)
}

// P9.2: the chapter's examples.
func TestKeyExamples(t *testing.T) {
	checkKey(t, "o61", "a", true)
	checkKey(t, "o00ff", "\x00\xff", true)
	for _, name := range []string{"o", "o6", "o6A", "O61", "61", "o61 ", ""} {
		checkKey(t, name, "", false)
	}
}

// P9.2: what is nearly an object's name is none.
func TestKeyOfStrangeNames(t *testing.T) {
	for _, name := range strangeNames() {
		checkKey(t, name, "", false)
	}
}

// P9.2: names of each number of digits, odd and even; the last is of 511 bytes.
func TestKeyOfEachLength(t *testing.T) {
	for n := range 1100 {
		name := "o" + strings.Repeat("9", n)
		if n >= 2 && n <= 510 && n%2 == 0 {
			checkKey(t, name, strings.Repeat("\x99", n/2), true)
		} else {
			checkKey(t, name, "", false)
		}
	}
}

// P9.2: each two bytes behind the o, and each byte in place of it: just the sixteen are digits, the first of two is that of the sixteens.
func TestKeyOfEachTwoBytes(t *testing.T) {
	for i := range 256 {
		for j := range 256 {
			name := string([]byte{'o', byte(i), byte(j)})
			for _, name := range []string{name, "o00" + name[1:], name + "ff"} {
				key, is := keyOf(name)
				checkKey(t, name, key, is)
			}
		}
		if i != 'o' {
			checkKey(t, string([]byte{byte(i), '6', '1'}), "", false)
		}
	}
}

// P9.2: one byte that is no digit, at each place of a name.
func TestKeyWithOneWrongByte(t *testing.T) {
	for _, n := range []int{2, 4, 10, 510} {
		good := "o" + strings.Repeat("61", n/2)
		checkKey(t, good, strings.Repeat("a", n/2), true)
		for at := range good {
			for _, wrong := range []string{"A", "g", " ", "/", ":", "`", "\x00", "\xff", "t", "l"} {
				checkKey(t, good[:at]+wrong+good[at+1:], "", false)
			}
		}
	}
}

// P9.2, P9.3: names, hurt names and any texts against the chapter's words.
func TestSomeNames(t *testing.T) {
	r := source(92)
	for range 30000 {
		name := someName(r)
		key, is := keyOf(name)
		checkKey(t, name, key, is)
		checkKind(t, name, kindOf(name))
	}
}

// P9.3: the chapter's examples.
func TestKindExamples(t *testing.T) {
	checkKind(t, "o61", 1)
	checkKind(t, "t", 2)
	checkKind(t, "l", 3)
	checkKind(t, "o", 0)
	checkKind(t, "tt", 0)
	checkKind(t, "", 0)
}

// P9.3: the kinds have api's names, and only Temp and Label themselves are theirs.
func TestKinds(t *testing.T) {
	checkKind(t, "o00", api.NameObject)
	checkKind(t, nameOf(strings.Repeat("\xff", 255)), api.NameObject)
	checkKind(t, naming.Temp, api.NameTemp)
	checkKind(t, naming.Label, api.NameLabel)
	for _, name := range strangeNames() {
		if name != "t" && name != "l" {
			checkKind(t, name, api.NameNone)
		}
	}
	for i := range 256 {
		name := string([]byte{byte(i)})
		checkKind(t, name, map[string]int{"t": api.NameTemp, "l": api.NameLabel}[name])
	}
}

// P9.4: the chapter's examples.
func TestUnderExamples(t *testing.T) {
	checkUnder(t, []string{"o62", "l", "o61", "o6261", "o62", "x"}, "", "a", "b", "ba")
	checkUnder(t, []string{"o62", "o61", "o6261"}, "b", "b", "ba")
	checkUnder(t, []string{"o62", "o61", "o6261"}, "o")
	checkUnder(t, nil, "")
}

// P9.4: prefixes of all kinds: none, a key itself, longer than each key, longer than a key may be, not whole runes.
func TestUnderPrefixes(t *testing.T) {
	long := strings.Repeat("b", 255)
	names := []string{"oc3a9", "o6261", "o61", "oc3", "off", "o00", "o0000", "offfe", nameOf(long), "o62", "t", "l", "ob", "o6f", "o6f3631"}
	checkUnder(t, names, "", "\x00", "\x00\x00", "a", "b", "ba", long, "o", "o61", "\xc3", "\xc3\xa9", "\xff", "\xff\xfe")
	checkUnder(t, names, "\x00", "\x00", "\x00\x00")
	checkUnder(t, names, "b", "b", "ba", long)
	checkUnder(t, names, "ba", "ba")
	checkUnder(t, names, "bac")
	checkUnder(t, names, long, long)
	checkUnder(t, names, long+"b")
	checkUnder(t, names, long+long)
	checkUnder(t, names, "o", "o", "o61")
	checkUnder(t, names, "o6", "o61")
	checkUnder(t, names, "o61", "o61")
	checkUnder(t, names, "o62")
	checkUnder(t, names, "\xc3", "\xc3", "\xc3\xa9")
	checkUnder(t, names, "é", "é")
	checkUnder(t, names, "\xff", "\xff", "\xff\xfe")
	checkUnder(t, names, "\xfe")
	checkUnder(t, names, "B")
	checkUnder(t, names, "t")
}

// P9.4: what is no object's name is passed over, wherever it stands.
func TestUnderPassesOver(t *testing.T) {
	strange := strangeNames()
	checkUnder(t, strange, "")
	for i := range strange {
		names := slices.Insert(slices.Clone(strange), i, "o62", "o61")
		checkUnder(t, names, "", "a", "b")
		checkUnder(t, names, "b", "b")
	}
}

// P9.4: lists of all kinds against the chapter's words.
func TestUnderOfSomeNames(t *testing.T) {
	r := source(93)
	for range 5000 {
		names, prefix := someNames(r), somePrefix(r)
		checkUnder(t, names, prefix, underOf(names, prefix)...)
	}
}

// P9.4: as many names as a drive may have, each of them twice, falling.
func TestUnderOfManyNames(t *testing.T) {
	var names, keys []string
	for i := range api.MaxFiles {
		keys = append(keys, string([]byte{byte(i >> 8), byte(i)}))
	}
	for _, key := range slices.Backward(keys) {
		names = append(names, nameOf(key), nameOf(key))
	}
	if got := naming.Under(names, ""); !slices.Equal(got, keys) {
		t.Errorf("Under of %d names answers %d keys, or in another order", len(names), len(got))
	}
	if got := naming.Under(names, "\x07"); !slices.Equal(got, keys[7<<8:8<<8]) {
		t.Errorf("Under with a prefix answers %d keys, or in another order", len(got))
	}
}
