package naming_test

import (
	"fmt"
	"math/rand"
	"regexp"
	"strconv"
	"strings"

	"cairn/api"
	"cairn/naming"
)

func source(seed int64) *rand.Rand { return rand.New(rand.NewSource(seed)) }

// pick is one of the list.
func pick[E any](r *rand.Rand, l ...E) E { return l[r.Intn(len(l))] }

// someText is that many bytes out of few: so that texts are often alike, or begin with one another.
func someText(r *rand.Rand, n int, out string) string {
	b := make([]byte, n)
	for i := range b {
		b[i] = out[r.Intn(len(out))]
	}
	return string(b)
}

func someBytes(r *rand.Rand, n int) string {
	b := make([]byte, n)
	r.Read(b)
	return string(b)
}

// someKey is mostly short, sometimes as long as one may be.
func someKey(r *rand.Rand) string {
	switch r.Intn(10) {
	case 0:
		return someBytes(r, 1+r.Intn(255))
	case 1:
		return strings.Repeat(pick(r, "\x00", "o", "\xff", "é"[:1]), pick(r, 1, 254, 255))
	case 2, 3, 4:
		return someBytes(r, 1+r.Intn(3))
	}
	return someText(r, 1+r.Intn(4), "ab\x00\xff")
}

// nameForm is an object's name in the chapter's words: the o, and 2 to 510 digits, even in number.
var nameForm = regexp.MustCompile(`\Ao(?:[0-9a-f][0-9a-f]){1,255}\z`)

// nameOf is the name of a text that is a key.
func nameOf(key string) string { return fmt.Sprintf("o%x", key) }

// keyOf is the key of an object's name: each two digits are a number of sixteens and ones.
func keyOf(name string) (string, bool) {
	if !nameForm.MatchString(name) {
		return "", false
	}
	var key []byte
	for i := 1; i < len(name); i += 2 {
		number, _ := strconv.ParseUint(name[i:i+2], 16, 8)
		key = append(key, byte(number))
	}
	return string(key), true
}

func kindOf(name string) int {
	switch {
	case nameForm.MatchString(name):
		return 1
	case name == "t":
		return 2
	case name == "l":
		return 3
	}
	return 0
}

// begins tells whether the other's bytes are the text's first ones.
func begins(text, other string) bool { return len(other) <= len(text) && text[:len(other)] == other }

// below tells whether a stands ahead of b, byte by byte.
func below(a, b string) bool {
	for i := 0; i < len(a) && i < len(b); i++ {
		if a[i] != b[i] {
			return a[i] < b[i]
		}
	}
	return len(a) < len(b)
}

// underOf lays each key into its place of a list that rises.
func underOf(names []string, prefix string) []string {
	var l []string
	for _, name := range names {
		key, is := keyOf(name)
		if !is || !begins(key, prefix) {
			continue
		}
		at := 0
		for at < len(l) && below(l[at], key) {
			at++
		}
		if at == len(l) || l[at] != key {
			l = append(l[:at], append([]string{key}, l[at:]...)...)
		}
	}
	return l
}

// strangeNames are texts that are no objects' names, most of them nearly one; Temp and Label among them.
func strangeNames() []string {
	digits := strings.Repeat("61", 255)
	return append(strangeShortNames(),
		"o"+digits[:509], "o"+digits+"6", "o"+digits+"61", "o"+digits+digits, "O"+digits, digits, "t"+digits, "o"+digits[:508]+"g1", "o"+digits[:508]+"6g", "og"+digits[:509],
		strings.Repeat("o", 511), strings.Repeat("6", 511), strings.Repeat("o", api.MaxName), "o"+strings.Repeat("61", 1<<16))
}

func strangeShortNames() []string {
	return []string{
		"", "o", "o6", "o616", "o6A", "oA6", "O61", "61", "o61 ", " o61", "o 61", "o6 1", "o61\x00", "o61\n", "\no61", "o0x61", "o+6", "o-6", "o6_1",
		"t", "l", "tt", "ll", "tl", "T", "L", "t61", "l61", "oo61", "ot", "ol", "to61", "lo61", "x", "x61", "p61", "n61", "a", "0", "00", "0061",
		"o6/", "o6:", "o6`", "o6g", "o/6", "o:6", "o`6", "og6", "o6@", "o6G", "o6\xff", "o\xff6", "o6\x00", "o\x006", "o61g1", "o611g", "o61\x80\x80", "o６１", "ö61",
		strings.Repeat("\x00", 3), naming.Temp, naming.Label,
	}
}

// someName is an object's name, or one that was hurt, or any text.
func someName(r *rand.Rand) string {
	name := nameOf(someKey(r))
	switch r.Intn(8) {
	case 0:
		at := r.Intn(len(name))
		return name[:at] + someBytes(r, 1) + name[at+1:]
	case 1:
		at := r.Intn(len(name))
		return name[:at] + name[at+1:]
	case 2:
		at := r.Intn(len(name) + 1)
		return name[:at] + someText(r, 1+r.Intn(2), "0189afotl") + name[at:]
	case 3:
		return pick(r, strangeShortNames()...)
	}
	return name
}

func someNames(r *rand.Rand) []string {
	var l []string
	for range r.Intn(30) {
		l = append(l, someName(r))
	}
	return l
}

// somePrefix is often what some key begins with, sometimes any text.
func somePrefix(r *rand.Rand) string {
	key := someKey(r)
	return pick(r, "", "a", key, key[:r.Intn(len(key)+1)], nameOf(key), someText(r, 1+r.Intn(2), "ab\x00\xff"), strings.Repeat("a", 300), "o", "t")
}
