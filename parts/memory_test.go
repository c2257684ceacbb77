package parts_test

import (
	"slices"
	"strings"
	"testing"

	"cairn/api"
	"cairn/store"
)

// spoil overwrites a list with the room behind it.
func spoil[E any](l []E, with E) {
	l = l[:cap(l)]
	for i := range l {
		l[i] = with
	}
}

// roomy is a list with room behind it that holds something.
func roomy[E any](l []E, behind ...E) []E {
	return slices.Concat(l, behind)[:len(l)]
}

// P26.15: the bytes and the lists that are handed in stay as they were, with the room behind them, and are not kept, whatever is answered.
func TestWhatIsHandedInStaysAsItWas(t *testing.T) {
	b := newBench(t, small())
	for _, x := range []struct {
		key            string
		upload, number int
		data           string
		want           api.Errno
	}{
		{"film", 1, 9, "hello", api.OK}, {"film", 1, 9, "hello", api.ErrExists}, {"film", 1, 0, "hello", api.ErrArg}, {"film", 8, 1, "hello", api.ErrUpload},
		{"", 1, 1, "hello", api.ErrKey}, {"film", 1, 8, strings.Repeat("x", 1<<15+1), api.ErrLarge}, {"film", 1, 8, "", api.OK},
	} {
		data := roomy([]byte(x.data), []byte("behind")...)
		_, number := b.u.Put(x.key, x.upload, x.number, data)
		fatalUnless(t, number == x.want, "Put = %d, not %d", number, x.want)
		fatalUnless(t, string(data[:len(data)+6]) == x.data+"behind", "the bytes became others")
		spoil(data, 'X')
	}
	list, number := b.u.List("film", 1)
	fatalUnless(t, number == api.OK && slices.Contains(list, partOf(9, "hello")), "List = %v, %d", list, number)

	behind := api.Part{Number: 77, Size: 88, Sum: 99}
	for _, x := range []struct {
		upload int
		list   []api.Part
		want   api.Errno
	}{
		{1, []api.Part{partOf(3, "-end"), partOf(1, "start")}, api.ErrArg},
		{1, []api.Part{partOf(1, "start"), partOf(3, "end")}, api.ErrPart},
		{8, []api.Part{partOf(1, "start")}, api.ErrUpload},
		{1, []api.Part{partOf(1, "start"), partOf(3, "-end")}, api.OK},
		{2, []api.Part{partOf(1, "other")}, api.ErrExists},
	} {
		l := roomy(x.list, behind)
		number := b.u.Finish("film", x.upload, l)
		fatalUnless(t, number == x.want, "Finish = %d, not %d", number, x.want)
		fatalUnless(t, slices.Equal(l, x.list) && l[:len(l)+1][len(l)] == behind, "the list became %v", l)
		spoil(l, behind)
	}
	fatalUnless(t, b.reads(t, "film") == "start-end", "%q", b.reads(t, "film"))
}

// P26.5: a Finish is of the list as it was handed in, whatever a drive that can reach the list makes of it meanwhile.
func TestDrivesTurnTheList(t *testing.T) {
	for round := range 12 {
		p := halfway(t, false)
		list := film()
		began := p.mine[0].rounds
		p.mine[0].over = func(now int) {
			if now == began+round {
				spoil(list, api.Part{Number: 2, Size: 3, Sum: 4})
			}
		}
		want := p.hand.ask(call{op: "finish", key: "film", upload: 1, list: film()})
		number := p.uploads.Finish("film", 1, list)
		fatalUnless(t, number == want.number && number == api.OK, "round %d: Finish = %d, not %v", round, number, want)
		p.alike(t, "Finish")
		text, err := p.store.Get(manifestKey("film"))
		fatalUnless(t, string(text) == manifestOf(1, "film", film()...) && err == nil, "the manifest is %q, %v", text, err)
	}
}

// P26.15: what is answered is new memory: a caller may overwrite it, with the room behind it, and is answered the same again.
func TestAnswersAreNewMemory(t *testing.T) {
	p := wide(t, "start", "", "-", "end")
	u := p.uploads
	for range 3 {
		list, number := u.List("film", 1)
		other, _ := u.List("film", 1)
		fatalUnless(t, number == api.OK && slices.Equal(list, film()), "List = %v, %d", list, number)
		spoil(list, api.Part{Number: 9})
		fatalUnless(t, slices.Equal(other, film()), "two answers share a list: %v", other)

		open, number := u.Open("film")
		others, _ := u.Open("film")
		fatalUnless(t, number == api.OK && slices.Equal(open, []int{1, 2}), "Open = %v, %d", open, number)
		spoil(open, 9)
		fatalUnless(t, slices.Equal(others, []int{1, 2}), "two answers share a list: %v", others)

		for _, x := range []struct{ key, want string }{{"wide", "art-en"}, {"plain", "lo"}} {
			off := len("art") - 1
			if x.key == "plain" {
				off = 3
			}
			data, number := u.Read(x.key, off, 6)
			again, _ := u.Read(x.key, off, 6)
			fatalUnless(t, number == api.OK && string(data) == x.want, "Read = %q, %d", data, number)
			spoil(data, 'X')
			fatalUnless(t, string(again) == x.want, "two answers share bytes: %q", again)
		}
		data, number := u.Read("wide", 1, 2) // of one part alone
		fatalUnless(t, number == api.OK && string(data) == "ta", "Read = %q, %d", data, number)
		spoil(data, 'X')
	}
}

// P26.12: uploads of a store that is closed, and opened again: all of it stands there.
func TestAllIsKeptInTheStore(t *testing.T) {
	b := newBench(t, small())
	fatalUnless(t, b.u.Finish("film", 1, []api.Part{partOf(1, "start"), partOf(3, "-end")}) == api.OK, "Finish")
	old := b.u
	fatalUnless(t, b.s.Close() == nil, "Close")
	s, err := store.Open(disksOf([]*patient{b.w[2], b.w[0], b.w[1]}))
	fatalUnless(t, err == nil, "Open: %v", err)
	b.over(s)
	fatalUnless(t, b.reads(t, "film") == "start-end", "%q", b.reads(t, "film"))
	list, number := b.u.List("film", 2)
	fatalUnless(t, number == api.OK && slices.Equal(list, []api.Part{partOf(1, "other")}), "List = %v, %d", list, number)
	_, number = old.Size("film")
	fatalUnless(t, number == api.ErrClosed, "Size of a closed store = %d", number)
}
