package listing_test

import (
	"fmt"
	"math"
	"slices"
	"strings"
	"testing"

	"cairn/api"
	"cairn/listing"
)

// shelves is a scene in which these keys stand at all places.
func shelves(shape api.Shape, keys ...string) scene {
	return sceneOf(shape, spies(shape.K+shape.M, func(i int) *spy { return shelf(shape, i, keys...) }))
}

// P22.3: queries that may not be are refused ahead of any drive's call, with whatever else they say.
func TestWrongQueries(t *testing.T) {
	limits := []int{0, 1, 2, 999, 1000, 1001, -1, -1000, math.MaxInt, math.MinInt, 1 << 32, 1<<32 + 1}
	delims := []int{-2, -1, 0, 1, 47, 254, 255, 256, 257, -3, math.MaxInt, math.MinInt, 1 << 32, 1<<32 + 47, -1 << 32}
	refused := 0
	for _, limit := range limits {
		for _, delim := range delims {
			for _, prefix := range []string{"", "a", strings.Repeat("a", 300)} {
				s := shelves(small(), "a", "a/b", "b")
				s.query = api.Query{Prefix: prefix, After: prefix, Delim: delim, Limit: limit}
				page, err := s.page(t)
				if isQuery(s.query) {
					wantNumber(t, fmt.Sprintf("Page %+v", s.query), err, api.OK)
					continue
				}
				refused++
				fatalUnless(t, err == api.ErrArg && samePage(page, api.Page{}), "Page %+v = %+v, %d", s.query, page, err)
				for i, d := range s.disks {
					fatalUnless(t, d.chart() == "", "the drive %d was asked %s", i, d.chart())
				}
			}
		}
	}
	fatalUnless(t, refused == 3*(12*15-4*6), "%d were refused", refused)
}

// P22.3: every query over few keys, in every way: limits from one to more than there are, each text as After, each byte that is there as Delim, each beginning as Prefix.
func TestEveryQuery(t *testing.T) {
	for _, keys := range [][]string{
		{"a", "a/b", "a/c", "b"},
		{"/", "//", "///", "a", "a/", "a//", "a/a", "a/a/", "a/a/a", "a0", "b/"},
		{"\x00", "\x00\x00", "\x00\xff", "\xff", "\xff\x00", "\xff\xff", "a\x00b", "a\xffb"},
		{"a.b", "a/b", "a0b", "ab"},
		{},
	} {
		slices.Sort(keys)
		texts := append([]string{"", "a/", "a//", "a/b/", "a0", "\x00", "\xff\xff\xff", "0", "zz", "a\x00", "a/\xff", "."}, keys...)
		var prefixes []string
		for _, text := range texts {
			for n := range len(text) + 1 {
				if !slices.Contains(prefixes, text[:n]) {
					prefixes = append(prefixes, text[:n])
				}
			}
		}
		s := shelves(small(), keys...)
		for _, prefix := range prefixes {
			for _, d := range s.disks {
				d.(*spy).asked = nil // much is noted
			}
			for _, after := range texts {
				for _, delim := range []int{-1, '/', 0, 255, 'a', 'b', '0', '.', 'z'} {
					for limit := 1; limit < len(keys)+2; limit++ {
						s.query = api.Query{Prefix: prefix, After: after, Delim: delim, Limit: limit}
						var begin []string
						for _, key := range keys {
							if strings.HasPrefix(key, prefix) {
								begin = append(begin, key)
							}
						}
						want := pageOf(begin, s.query)
						page, err := listing.Page(s.set, nil, s.query)
						if err != api.OK || !samePage(page, want) {
							t.Fatalf("of %q: Page %+v = %+v, %d, not %+v", keys, s.query, page, err, want)
						}
					}
				}
			}
		}
	}
}

// P22.3: what a group is: up to the first Delim behind the prefix, that byte included; a key that ends there is in its group.
func TestGroups(t *testing.T) {
	for _, x := range []struct {
		keys string
		q    api.Query
		want api.Page
	}{
		{"a/", api.Query{Delim: '/', Limit: 1}, api.Page{Groups: []string{"a/"}}},
		{"a/ a/b", api.Query{Delim: '/', Limit: 1}, api.Page{Groups: []string{"a/"}}},
		{"a/ a/b", api.Query{Prefix: "a/", Delim: '/', Limit: 9}, api.Page{Keys: []string{"a/", "a/b"}}},
		{"a/ a/b/c a/b/d", api.Query{Prefix: "a/", Delim: '/', Limit: 9}, api.Page{Keys: []string{"a/"}, Groups: []string{"a/b/"}}},
		{"a/b/c", api.Query{Prefix: "a", Delim: '/', Limit: 9}, api.Page{Groups: []string{"a/"}}},
		{"a/b/c", api.Query{Prefix: "a/b", Delim: '/', Limit: 9}, api.Page{Groups: []string{"a/b/"}}},
		{"a/b/c", api.Query{Prefix: "a/b/c", Delim: '/', Limit: 9}, api.Page{Keys: []string{"a/b/c"}}},
		{"a//b a//c", api.Query{Prefix: "a/", Delim: '/', Limit: 9}, api.Page{Groups: []string{"a//"}}},
		{"/ /a //", api.Query{Delim: '/', Limit: 9}, api.Page{Groups: []string{"/"}}},
		{"a a/b a0 b", api.Query{Delim: '/', Limit: 3}, api.Page{Keys: []string{"a", "a0"}, Groups: []string{"a/"}, More: true, Next: "a0"}},
		{"a a/b a0 b", api.Query{Delim: '/', Limit: 4}, api.Page{Keys: []string{"a", "a0", "b"}, Groups: []string{"a/"}}},
		{"a a/b a0 b", api.Query{Delim: '/', Limit: 4, After: "a"}, api.Page{Keys: []string{"a0", "b"}, Groups: []string{"a/"}}},
		{"a a/b a0 b", api.Query{Delim: '/', Limit: 4, After: "a."}, api.Page{Keys: []string{"a0", "b"}, Groups: []string{"a/"}}},
		{"a a/b a0 b", api.Query{Delim: '/', Limit: 4, After: "a/"}, api.Page{Keys: []string{"a0", "b"}}},
		{"a a/b a/c b", api.Query{Delim: '/', Limit: 4, After: "a/b"}, api.Page{Keys: []string{"b"}}}, // the group is not above it, though a/c is
		{"a a/b a/c b", api.Query{Delim: -1, Limit: 4, After: "a/b"}, api.Page{Keys: []string{"a/c", "b"}}},
		{"a a/b a/c b", api.Query{Delim: '/', Limit: 4, After: "b"}, api.Page{}},
		{"a a/b a/c b", api.Query{Delim: 'b', Limit: 4}, api.Page{Keys: []string{"a", "a/c"}, Groups: []string{"a/b", "b"}}},
		{"a/x b/x c/x", api.Query{Delim: '/', Limit: 2}, api.Page{Groups: []string{"a/", "b/"}, More: true, Next: "b/"}},
		{"a/x a/y a/z b", api.Query{Delim: '/', Limit: 1}, api.Page{Groups: []string{"a/"}, More: true, Next: "a/"}},
		{"a/x a/y a/z", api.Query{Delim: '/', Limit: 1}, api.Page{Groups: []string{"a/"}}},
	} {
		s := shelves(small(), strings.Fields(x.keys)...)
		s.query = x.q
		page, err := s.page(t)
		fatalUnless(t, err == api.OK && samePage(page, x.want), "of %s: Page %+v = %+v, %d, not %+v", x.keys, x.q, page, err, x.want)
	}
}

// Each byte as Delim, in keys that hold each byte.
func TestEachDelim(t *testing.T) {
	var keys []string
	for b := range 256 {
		keys = append(keys, string([]byte{'k', byte(b)}), string([]byte{'k', byte(b), 'x'}), string([]byte{byte(b)}))
	}
	slices.Sort(keys)
	s := shelves(small(), keys...)
	for delim := range 256 {
		for _, prefix := range []string{"", "k"} {
			var begin []string
			for _, key := range keys {
				if strings.HasPrefix(key, prefix) {
					begin = append(begin, key)
				}
			}
			q := api.Query{Prefix: prefix, Delim: delim, Limit: 1000}
			want := pageOf(begin, q)
			page, err := listing.Page(s.set, nil, q)
			fatalUnless(t, err == api.OK && samePage(page, want) && len(page.Groups) > 0, "Page %+v = %+v, %d, not %+v", q, page, err, want)
		}
	}
}

// The edges of the limit: as many entries as that, one more, one fewer, also with the greatest one.
func TestLimits(t *testing.T) {
	var keys []string
	for i := range 1002 {
		keys = append(keys, fmt.Sprintf("%04d", i))
	}
	for _, have := range []int{0, 1, 2, 3, 998, 999, 1000, 1001, 1002} {
		s := shelves(api.Shape{K: 1, M: 1, Block: 64}, keys[:have]...)
		for _, limit := range []int{1, 2, 3, 998, 999, 1000} {
			page, err := listing.Page(s.set, nil, api.Query{Delim: -1, Limit: limit})
			told := min(have, limit)
			next := ""
			if have > limit {
				next = keys[limit-1]
			}
			fatalUnless(t, err == api.OK && slices.Equal(page.Keys, keys[:told]) && len(page.Groups) == 0 && page.More == (have > limit) && page.Next == next, "of %d keys: Page with %d tells %d, %v, %q, %d", have, limit, len(page.Keys), page.More, page.Next, err)
		}
	}
}

// The errors of List are Page's own.
func TestPageAnswersWhatListDoes(t *testing.T) {
	met := map[api.Errno]int{}
	for seed := range int64(3000) {
		r := source(seed)
		q := api.Query{Prefix: pick(r, "", "a"), Delim: pick[int](r, -1, '/'), Limit: pick(r, 1, 2, 1000)}
		s := someWorld(seed)
		s.query = q
		keys, want := s.list(t)
		s = someWorld(seed)
		s.query = q
		page, err := s.page(t)
		wantNumber(t, "Page", err, want)
		fatalUnless(t, err == api.OK && samePage(page, pageOf(keys, q)) || err != api.OK && samePage(page, api.Page{}), "Page = %+v, %d", page, err)
		met[err]++
	}
	wantMet(t, met, api.OK, api.ErrQuorum, api.ErrDown)
}
