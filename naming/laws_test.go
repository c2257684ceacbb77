package naming_test

import (
	"slices"
	"strings"
	"testing"

	"cairn/api"
	"cairn/naming"
)

// shortKeys are all of one and two bytes out of few, and some that are long.
func shortKeys() []string {
	few := []string{"\x00", "\x01", "\x0f", "\x10", "/", "0", "9", ":", "A", "a", "f", "g", "o", "\x7f", "\x80", "\x9f", "\xa0", "\xfe", "\xff"}
	keys := slices.Clone(few)
	for _, a := range few {
		for _, b := range few {
			keys = append(keys, a+b)
		}
		keys = append(keys, strings.Repeat(a, 254), strings.Repeat(a, 255), strings.Repeat(a, 254)+"a")
	}
	return keys
}

func objectOf(t *testing.T, key string) string {
	t.Helper()
	name, err := naming.Object(key)
	if err != api.OK {
		t.Fatalf("Object(%q) = %q, %d", key, name, err)
	}
	return name
}

// P9.5: of each key the way there and back; the name's length, and its kind.
func TestKeysComeBack(t *testing.T) {
	r := source(94)
	keys := shortKeys()
	for range 20000 {
		keys = append(keys, someKey(r))
	}
	for _, key := range keys {
		name := objectOf(t, key)
		checkKey(t, name, key, true)
		checkKind(t, name, api.NameObject)
		if len(name) < 3 || len(name) > 511 || len(name) > api.MaxName || name == naming.Temp || name == naming.Label {
			t.Errorf("Object(%q) = %q, of %d bytes", key, name, len(name))
		}
	}
}

// P9.5: of each text that is an object's name the way back and there.
func TestNamesComeBack(t *testing.T) {
	r := source(95)
	met := 0
	for range 30000 {
		name := someName(r)
		if key, is := naming.Key(name); is {
			met++
			checkObject(t, key, name, api.OK)
		}
	}
	if met < 10000 {
		t.Errorf("only %d names were met", met)
	}
}

// P9.5: unlike keys have unlike names.
func TestUnlikeKeysHaveUnlikeNames(t *testing.T) {
	of := map[string]string{}
	for i := range 1 << 16 {
		for _, key := range []string{string([]byte{byte(i)}), string([]byte{byte(i >> 8), byte(i)}), string([]byte{0, byte(i >> 8), byte(i)})} {
			name := objectOf(t, key)
			if other, is := of[name]; is && other != key {
				t.Fatalf("%q and %q have the name %q", other, key, name)
			}
			of[name] = key
		}
	}
}

// P9.6: names stand to one another as their keys do.
func TestNamesKeepTheOrder(t *testing.T) {
	check := func(a, b string) {
		nameA, nameB := objectOf(t, a), objectOf(t, b)
		if below(a, b) != below(nameA, nameB) || below(b, a) != below(nameB, nameA) {
			t.Errorf("%q and %q stand otherwise than %q and %q", nameA, nameB, a, b)
		}
		if begins(a, b) != begins(nameA, nameB) || begins(b, a) != begins(nameB, nameA) {
			t.Errorf("%q and %q begin otherwise than %q and %q", nameA, nameB, a, b)
		}
	}
	keys := shortKeys()
	for i, a := range keys {
		for _, b := range keys[i:] {
			check(a, b)
		}
	}
	r := source(96)
	for range 20000 {
		a := someKey(r)
		check(a, someKey(r))
		check(a, a[:1+r.Intn(len(a))])
	}
}

// P9.6: each two bytes, so that no two digits stand the wrong way round.
func TestBytesKeepTheOrder(t *testing.T) {
	last := ""
	for i := range 256 {
		name := objectOf(t, string([]byte{byte(i)}))
		if !below(last, name) {
			t.Errorf("%q does not stand behind %q", name, last)
		}
		last = name
	}
}

// P9.6: a rising list of names is a rising list of keys.
func TestRisingNamesAreRisingKeys(t *testing.T) {
	r := source(97)
	for range 300 {
		var names, keys []string
		for range 30 {
			keys = append(keys, someKey(r))
			names = append(names, objectOf(t, keys[len(keys)-1]))
		}
		slices.Sort(keys)
		slices.Sort(names)
		for i, name := range names {
			checkKey(t, name, keys[i], true)
		}
	}
}

// P9.7: neither the order of names nor how often one stands there is seen.
func TestUnderHangsOnNoOrder(t *testing.T) {
	r := source(98)
	for range 1000 {
		names, prefix := someNames(r), somePrefix(r)
		want := naming.Under(names, prefix)
		more := slices.Clone(names)
		for range r.Intn(20) {
			if len(names) > 0 {
				more = append(more, pick(r, names...))
			}
		}
		for range 3 {
			r.Shuffle(len(more), func(i, j int) { more[i], more[j] = more[j], more[i] })
			checkUnder(t, more, prefix, want...)
		}
	}
}

// P9.7: the same list is answered the same, call by call, though a map is gone through.
func TestUnderAnswersTheSame(t *testing.T) {
	names := []string{}
	for _, key := range shortKeys() {
		names = append(names, nameOf(key))
	}
	want := underOf(names, "")
	for range 50 {
		checkUnder(t, names, "", want...)
	}
}

// P9.7: of two lists one behind the other, the keys of both.
func TestUnderOfTwoLists(t *testing.T) {
	r := source(99)
	for range 2000 {
		a, b, prefix := someNames(r), someNames(r), somePrefix(r)
		both := slices.Concat(naming.Under(a, prefix), naming.Under(b, prefix))
		slices.Sort(both)
		checkUnder(t, slices.Concat(a, b), prefix, slices.Compact(both)...)
	}
}

// P9.7: with a prefix, those of all keys that begin with it, in their order.
func TestUnderWithAPrefix(t *testing.T) {
	r := source(100)
	met := 0
	for range 3000 {
		names, prefix := someNames(r), somePrefix(r)
		var want []string
		for _, key := range naming.Under(names, "") {
			if begins(key, prefix) {
				want = append(want, key)
			}
		}
		checkUnder(t, names, prefix, want...)
		if prefix != "" && len(want) > 0 {
			met++
		}
	}
	if met < 300 {
		t.Errorf("only %d prefixes were some key's", met)
	}
}

// P9.7: of the names of the keys that it answered, just these.
func TestUnderOfWhatItAnswered(t *testing.T) {
	r := source(101)
	for range 2000 {
		prefix := somePrefix(r)
		keys := naming.Under(someNames(r), prefix)
		var names []string
		for _, key := range keys {
			names = append(names, objectOf(t, key))
		}
		checkUnder(t, names, prefix, keys...)
		checkUnder(t, names, "", keys...)
	}
}
