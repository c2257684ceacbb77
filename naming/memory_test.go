package naming_test

import (
	"slices"
	"strings"
	"sync"
	"testing"
	"unsafe"

	"cairn/api"
	"cairn/naming"
)

// overwrite fills a list and the room behind it.
func overwrite(l []string, with string) {
	l = l[:cap(l)]
	for i := range l {
		l[i] = with
	}
}

// roomy is the list with names of its owner's behind it, and all of it.
func roomy(l []string) (list, all []string) {
	all = append(make([]string, 0, len(l)+40), l...)
	for i := range 40 {
		all = append(all, nameOf(string([]byte{'r', byte(i)})))
	}
	return all[:len(l)], all
}

func memoryLists() [][]string {
	r := source(102)
	l := [][]string{nil, {}, {"o61"}, {"x"}, {"o62", "l", "o61", "o6261", "o62", "x"}, {"o61", "o62", "o63"}, strangeNames()}
	for range 200 {
		l = append(l, someNames(r))
	}
	return l
}

// P9.8: the list and the room behind it stay as they were, whatever becomes of the answer; and the room is not read.
func TestNamesHandedInStayAsTheyWere(t *testing.T) {
	r := source(103)
	for _, plain := range memoryLists() {
		names, all := roomy(plain)
		before := slices.Clone(all)
		for _, prefix := range []string{"", "r", "b", somePrefix(r)} {
			keys := naming.Under(names, prefix)
			if !slices.Equal(keys, underOf(plain, prefix)) {
				t.Fatalf("Under(%q, %q) = %q", plain, prefix, keys)
			}
			if !slices.Equal(all, before) {
				t.Fatalf("Under(%q, %q) changed what it was handed", plain, prefix)
			}
			overwrite(keys, "overwritten")
			if !slices.Equal(all, before) {
				t.Fatalf("Under(%q, %q) answered what it was handed", plain, prefix)
			}
		}
	}
}

// P9.8: an answer is its own: apart from the names and from each other answer.
func TestAnswersShareNoMemory(t *testing.T) {
	for _, plain := range memoryLists() {
		want := underOf(plain, "")
		names, all := roomy(plain)
		keys := naming.Under(names, "")
		other := naming.Under(names, "")
		overwrite(other, "overwritten")
		overwrite(all, "o7a")
		third := naming.Under(plain, "")
		if !slices.Equal(keys, want) || !slices.Equal(third, want) {
			t.Fatalf("Under(%q, \"\") = %q, and then %q", plain, keys, third)
		}
	}
}

// P9.8: texts are not kept either: what was answered does not hang on the memory that the names and the prefix had.
func TestTextsAreNotKept(t *testing.T) {
	text := func(of string) ([]byte, string) {
		b := []byte(of)
		return b, unsafe.String(&b[0], len(b))
	}
	name, nameText := text("o6b6579")
	key, keyText := text("key")
	prefix, prefixText := text("ke")
	gotName, _ := naming.Object(keyText)
	gotKey, _ := naming.Key(nameText)
	keys := naming.Under([]string{nameText}, prefixText)
	whole := naming.Under([]string{nameText}, keyText)
	for _, b := range [][]byte{name, key, prefix} {
		for i := range b {
			b[i] = '!'
		}
	}
	if gotName != "o6b6579" || gotKey != "key" || !slices.Equal(keys, []string{"key"}) || !slices.Equal(whole, []string{"key"}) {
		t.Errorf("the answers became %q, %q, %q, %q", gotName, gotKey, keys, whole)
	}
}

// P9.8: no call keeps anything: each answers the same whatever is called beside it.
func TestManyCallsAtOnce(t *testing.T) {
	lists := memoryLists()
	keys := shortKeys()
	var group sync.WaitGroup
	for range 8 {
		group.Go(func() {
			for _, names := range lists {
				if got := naming.Under(names, "a"); !slices.Equal(got, underOf(names, "a")) {
					t.Errorf("Under(%q, \"a\") beside others = %q", names, got)
				}
			}
			for _, key := range keys {
				name, err := naming.Object(key)
				back, is := naming.Key(name)
				if name != nameOf(key) || err != api.OK || back != key || !is {
					t.Errorf("Object and Key of %q beside others = %q, %q", key, name, back)
				}
			}
		})
	}
	group.Wait()
}

// W0: whatever is handed in, a call ends and does not panic.
func TestEveryCallEnds(t *testing.T) {
	r := source(104)
	for range 20000 {
		text := someBytes(r, r.Intn(600))
		name := "o" + someText(r, r.Intn(600), "0123456789abcdef")
		for _, x := range []string{text, name, "o" + text} {
			naming.Object(x)
			naming.Key(x)
			naming.Kind(x)
			naming.Under([]string{x, text, name}, text)
		}
	}
	great := strings.Repeat("o6", 1<<22)
	naming.Object(great)
	naming.Key(great)
	naming.Kind(great)
	naming.Under([]string{great, "o" + great}, great)
}
