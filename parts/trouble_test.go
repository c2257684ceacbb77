package parts_test

import (
	"fmt"
	"slices"
	"strings"
	"testing"

	"cairn/api"
	"cairn/store"
)

// trouble is something that happens in one of a call's rounds, which is told: to drives that are alike, so that the same happens to both stores.
type trouble struct {
	name string
	make func(round int, s *store.Store, l []*spy)
}

// at makes the calls of these drives in the round that begin with one of the words be answered so.
func at(err api.Errno, drives []int, words ...string) func(round int, s *store.Store, l []*spy) {
	return func(round int, _ *store.Store, l []*spy) {
		for _, i := range drives {
			l[i].fate = func(now int, says string) (api.Errno, bool) {
				return err, now == round && slices.ContainsFunc(words, func(w string) bool { return strings.HasPrefix(says, w) })
			}
		}
	}
}

func troubles() []trouble {
	all, two, one := []int{0, 1, 2}, []int{0, 2}, []int{1}
	return []trouble{
		{"nothing", func(int, *store.Store, []*spy) {}},
		{"all offline", at(api.ErrOffline, all, "")},
		{"two offline", at(api.ErrOffline, two, "")},
		{"one offline", at(api.ErrIO, one, "")},
		{"all missing", at(api.ErrMissing, all, "Read")},
		{"two missing", at(api.ErrMissing, two, "Read")},
		{"full", at(api.ErrFull, one, "Create", "Append")},
		{"not away", at(api.ErrIO, two, "Remove", "SyncDir")},
		{"untold", at(api.ErrIO, two, "List")},
		{"offline from then on", func(round int, _ *store.Store, l []*spy) {
			for _, s := range l[:2] {
				s.fate = func(now int, _ string) (api.Errno, bool) { return api.ErrOffline, now >= round }
			}
		}},
		{"down", func(round int, _ *store.Store, l []*spy) {
			l[1].struck = func(now int) bool { return now == round }
		}},
		{"stopped", func(round int, s *store.Store, l []*spy) {
			l[0].over = func(now int) {
				if now == round {
					s.Stop()
				}
			}
		}},
	}
}

// scenes are stores with all that can stand in them, each with calls of interest there.
func scenes() map[string]func(t *testing.T) (*pair[*spy], []call) {
	finish := call{op: "finish", key: "film", upload: 1, list: film()}
	abort := call{op: "abort", key: "film", upload: 1}
	return map[string]func(t *testing.T) (*pair[*spy], []call){
		"laid": func(t *testing.T) (*pair[*spy], []call) {
			p := laid(t)
			p.plain(t, numberKey(4), "")
			return p, append(everyCall(), finish, abort)
		},
		"marked": func(t *testing.T) (*pair[*spy], []call) {
			return halfway(t, false), []call{finish, abort, {op: "sweep"}}
		},
		"finished": func(t *testing.T) (*pair[*spy], []call) {
			return halfway(t, true), []call{finish, abort, {op: "finish", key: "film", upload: 2}, {op: "delete", key: "film"}, {op: "read", key: "film", off: 1, n: 99}, {op: "sweep"}}
		},
		"littered": func(t *testing.T) (*pair[*spy], []call) {
			p := halfway(t, true)
			p.plain(t, numberKey(2), "")
			p.plain(t, numberKey(3), "")
			p.plain(t, markKey(9), "of no upload")
			p.plain(t, partKey(9, 1), "of no upload")
			p.plain(t, partKey(3, 1), "that song has not")
			return p, []call{{op: "sweep"}, {op: "begin", key: "film"}}
		},
	}
}

// Whatever happens in whichever round of a call, it asks the store, and answers, just what the chapter says; and the next call, too.
func TestTroubleInEachRound(t *testing.T) {
	t.Parallel()
	met := map[string]int{}
	for name, anew := range scenes() {
		_, calls := anew(t)
		for _, c := range calls {
			for _, x := range troubles() {
				for round := 0; ; round++ {
					p, _ := anew(t)
					p.alike(t, name)
					began := p.mine[0].rounds
					fatalUnless(t, p.theirs[0].rounds == began, "%s: %d rounds, and by hand %d", name, began, p.theirs[0].rounds)
					p.each(func(s *store.Store, l []*spy) { x.make(began+round, s, l) })
					a := p.check(t, c)
					met[fmt.Sprint(c.op, " ", int(a.number))]++
					if p.mine[0].rounds <= began+round || x.name == "nothing" {
						break // it had no such round
					}
					p.check(t, c)
					p.check(t, call{op: "open", key: "film"})
				}
			}
		}
	}
	for op, numbers := range map[string][]api.Errno{
		"begin":  {0, 122, 160, 170},
		"put":    {0, 122, 160, 170, 190, 260},
		"list":   {0, 122, 160, 170, 260},
		"finish": {0, 122, 160, 170, 190, 200, 230, 260, 261},
		"abort":  {0, 122, 160, 170, 190, 200, 230, 260},
		"open":   {0, 122, 160, 170},
		"size":   {0, 122, 160, 170, 200},
		"read":   {0, 122, 160, 170, 200, 201, 261},
		"delete": {0, 122, 160, 170, 200},
		"sweep":  {0, 122, 160, 170, 230},
	} {
		for _, number := range numbers {
			fatalUnless(t, met[fmt.Sprint(op, " ", int(number))] > 0, "%s %d was never met: %v", op, number, met)
		}
		for what := range met {
			var number api.Errno
			if n, _ := fmt.Sscanf(what, op+" %d", &number); n == 1 {
				fatalUnless(t, slices.Contains(numbers, number), "%s = %d", op, number)
			}
		}
	}
}

// What else a Get can tell between two calls of one: a record, mark or manifest that another one has put there meanwhile.
func TestWhatTurnsInTheMidst(t *testing.T) {
	type turn func(t *testing.T, s *store.Store)
	finish := call{op: "finish", key: "film", upload: 1, list: film()}
	swap := func(key, data string) turn {
		return func(t *testing.T, s *store.Store) {
			s.Delete(key)
			if data != "" {
				fatalUnless(t, s.Put(key, []byte(data)) == nil, "Put %q", key)
			}
		}
	}
	for _, x := range []struct {
		manifest bool
		call     call
		behind   int // so many rounds of the call
		turn     turn
		want     api.Errno
	}{
		{true, finish, 3, swap(manifestKey("film"), ""), api.ErrNotFound},
		{true, finish, 3, swap(manifestKey("film"), manifestOf(2, "film")), api.ErrExists},
		{true, finish, 3, swap(manifestKey("film"), manifestOf(1, "film", partOf(2, "not this one"))), api.OK},
		{false, finish, 6, swap(markKey(1), ""), api.ErrNotFound},
		{false, finish, 6, swap(markKey(1), manifestOf(1, "film")), api.ErrExists},
		{false, finish, 5, swap(manifestKey("film"), manifestOf(1, "film", film()...)), api.ErrExists},
		{false, finish, 5, swap(manifestKey("film"), manifestOf(2, "film")), api.ErrExists},
		{false, finish, 3, swap(partKey(1, 3), ""), api.ErrPart},
		{false, finish, 3, swap(partKey(1, 3), "-END"), api.ErrPart},
		{false, call{op: "abort", key: "film", upload: 1}, 2, swap(recordKey(1), ""), api.ErrNotFound},
		{false, call{op: "abort", key: "film", upload: 1}, 2, swap(markKey(1), ""), api.OK},
		{false, call{op: "abort", key: "film", upload: 1}, 2, swap(manifestKey("film"), manifestOf(1, "film")), api.ErrExists},
		{false, call{op: "abort", key: "film", upload: 1}, 2, swap(manifestKey("film"), manifestOf(2, "film")), api.OK},
		{true, call{op: "delete", key: "film"}, 2, swap(manifestKey("film"), ""), api.ErrNotFound},
		{true, call{op: "read", key: "film", off: 6, n: 3}, 2, swap(partKey(1, 3), ""), api.ErrPart},
		{true, call{op: "read", key: "film", off: 7, n: 2}, 2, swap(partKey(1, 3), "-"), api.ErrPart},
		{false, call{op: "list", key: "film", upload: 1}, 3, swap(partKey(1, 3), ""), api.OK},
		{false, call{op: "open", key: "film"}, 2, swap(recordKey(2), ""), api.OK},
		{false, call{op: "begin", key: "film"}, 2, swap(numberKey(6), "x"), api.ErrExists},
		{false, call{op: "begin", key: "film"}, 2, swap(recordKey(6), "x"), api.ErrExists},
		{false, call{op: "put", key: "film", upload: 1, number: 9}, 1, swap(partKey(1, 9), "x"), api.ErrExists},
	} {
		p := halfway(t, x.manifest)
		p.each(func(s *store.Store, l []*spy) {
			began, inside := l[0].rounds, false
			l[0].over = func(now int) {
				if now == began+x.behind-1 && !inside {
					inside = true // what the turn itself asks has rounds, too
					x.turn(t, s)
				}
			}
		})
		a := p.check(t, x.call)
		fatalUnless(t, a.number == x.want, "%+v, behind %d rounds, = %v, not %d; the store was asked %q", x.call, x.behind, a, x.want, p.hand.log)
	}
}
