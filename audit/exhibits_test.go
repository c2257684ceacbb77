package audit_test

import (
	"math"
	"slices"
	"testing"

	"cairn/api"
	"cairn/drive"
	"cairn/opening"
	"cairn/put"
	"cairn/wound"
)

// numbers are answers of a drive; the first is OK.
var numbers = []api.Errno{0, 110, 120, 121, 122, 111, 112, 91, 90, 70, 81, 1, 2, 3, 170, 181, 200, 201, 160, 7, -1, -7, math.MaxInt, math.MinInt}

// opened is a store that was formatted and opened, with its drives at their places.
func opened(t *testing.T, shape api.Shape) (*api.Set, []*wound.Wound) {
	t.Helper()
	var w []*wound.Wound
	var disks []api.Disk
	for range shape.K + shape.M {
		w = append(w, wound.New(drive.New(1<<22)))
		disks = append(disks, w[len(w)-1])
	}
	wantNumber(t, "Format", opening.Format(disks, shape, theStore()), api.OK)
	set, err := opening.Open(disks)
	wantNumber(t, "Open", err, api.OK)
	return set, w
}

// laid is a store of the chapter's examples, in which these objects stand.
func laid(t *testing.T, keys ...string) (*api.Set, []*wound.Wound) {
	t.Helper()
	set, w := opened(t, small())
	for _, key := range keys {
		wantNumber(t, "Put", put.Put(set, nil, key, []byte("of "+key)), api.OK)
	}
	return set, w
}

// exhibit is what a place shows in a store of that shape, at that place; nil: there is no drive.
type exhibit func(shape api.Shape, place int) *spy

// stored shows the shard of a writing under the key "a", whose head is first changed.
func stored(gen api.Gen, data string, change func(h *api.Head)) exhibit {
	return func(shape api.Shape, place int) *spy {
		h := api.Head{Store: theStore(), Shape: shape, Key: "a", Gen: gen}
		change(&h)
		forms := formsOf(h, data)
		return (&spy{}).lay("a", slices.Clone(forms[min(place, len(forms)-1)]))
	}
}

// text is an object with its head.
type text struct {
	head api.Head
	data string
}

var made = map[text][][]byte{}

// formsOf are the bytes of the files of an object, which are made once: a great shape takes its time.
func formsOf(h api.Head, data string) [][]byte {
	if _, is := made[text{h, data}]; !is {
		var forms [][]byte
		for _, s := range shardsOf(h, []byte(data)) {
			forms = append(forms, formOf(s))
		}
		made[text{h, data}] = forms
	}
	return made[text{h, data}]
}

// changed is an exhibit that is changed.
func changed(of exhibit, change func(s *spy)) exhibit {
	return func(shape api.Shape, place int) *spy {
		s := of(shape, place)
		change(s)
		return s
	}
}

// spoiled is an exhibit whose bytes under the key "a" are changed.
func spoiled(of exhibit, change func(b []byte) []byte) exhibit {
	return changed(of, func(s *spy) { s.files["o61"] = change(s.files["o61"]) })
}

// mute is an exhibit whose List answers this number, beside its names.
func mute(of exhibit, number api.Errno) exhibit {
	return changed(of, func(s *spy) { s.list = number })
}

// refused is an exhibit whose Read of "a" answers this number, beside its bytes.
func refused(of exhibit, number api.Errno) exhibit {
	return changed(of, func(s *spy) { s.fail("a", number) })
}

// silent is an exhibit both of whose calls answer this number.
func silent(of exhibit, number api.Errno) exhibit {
	return mute(refused(of, number), number)
}

// telling is an exhibit that tells these names, whatever stands there.
func telling(of exhibit, names ...string) exhibit {
	return changed(of, func(s *spy) { s.names = names })
}

func asItIs(*api.Head) {}

func nothing(api.Shape, int) *spy { return &spy{} }

func nobody(api.Shape, int) *spy { return nil }

// The writings that stand there, the newest last; that one is newer than the set's Last.
var (
	oldOne    = stored(api.Gen{Epoch: 1, Count: 9}, "hello", asItIs)
	longOne   = stored(api.Gen{Epoch: 1, Count: 9}, "hello!", asItIs)
	youngOne  = stored(api.Gen{Epoch: 2, Count: 1}, "young", asItIs)
	futureOne = stored(api.Gen{Epoch: 9, Count: 9}, "", asItIs)
)

// Something spoilt: of the second one the head is right.
var (
	spoiltOne = spoiled(oldOne, func(b []byte) []byte { b[20] ^= 1; return b })
	wornOne   = spoiled(oldOne, func(b []byte) []byte { b[len(b)-5] ^= 1; return b })
)

// silentOne is a drive that does not answer.
var silentOne = silent(oldOne, api.ErrOffline)

// few are exhibits of each kind that counts, or does not, or ends it.
func few() []exhibit {
	return []exhibit{
		nobody, nothing, oldOne, longOne, youngOne, spoiltOne, wornOne, mute(oldOne, api.ErrIO), mute(oldOne, api.ErrDown),
		refused(oldOne, api.ErrIO), refused(oldOne, api.ErrMissing), refused(oldOne, api.ErrDown), telling(oldOne),
	}
}

// many are exhibits of all kinds.
func many() []exhibit {
	gen := api.Gen{Epoch: 1, Count: 9}
	all := append(few(), futureOne, silentOne,
		stored(gen, "hello", func(h *api.Head) { h.Store[3] = 1 }),
		stored(gen, "hello", func(h *api.Head) { h.Shape.Block++ }),
		stored(gen, "hello", func(h *api.Head) { h.Shape.K = min(h.Shape.K+1, 255-h.Shape.M) }),
		stored(gen, "hello", func(h *api.Head) { h.Key = "b" }),
		stored(gen, "hello", func(h *api.Head) { h.Key = "aa" }),
		func(shape api.Shape, place int) *spy { return oldOne(shape, (place+1)%(shape.K+shape.M)) },
		spoiled(oldOne, func([]byte) []byte { return []byte{} }),
		spoiled(oldOne, func(b []byte) []byte { return append(b, 0) }),
		spoiled(oldOne, func(b []byte) []byte { return b[:len(b)-1] }),
		spoiled(oldOne, func(b []byte) []byte { return b[1:] }),
		telling(oldOne, "o61", "o61", "o61"),
		telling(oldOne, "o62", "o61", "l", "o60"),
		telling(oldOne, "o6161", "o61"),
		telling(oldOne, "o6", "61", "O61", "o61 ", " o61", "o6A", "o", "", "a", "t", "l"),
		telling(nothing, "o61"),
		telling(mute(oldOne, api.ErrMissing), "o61"),
	)
	for _, number := range numbers {
		all = append(all, refused(oldOne, number), refused(nothing, number), mute(oldOne, number), mute(telling(oldOne), number))
	}
	return all
}

// gallery is a scene of which each place shows what the list says.
func gallery(shape api.Shape, l []exhibit) scene {
	return sceneOf(shape, spies(len(l), func(i int) *spy { return l[i](shape, i) }))
}

// full is a scene in which each place shows the old one.
func full(shape api.Shape) scene {
	return gallery(shape, slices.Repeat([]exhibit{oldOne}, shape.K+shape.M))
}

// shelf is a drive on which stand the shards of these keys, told in this order.
func shelf(shape api.Shape, place int, keys ...string) *spy {
	s := &spy{}
	for _, key := range keys {
		s.lay(key, slices.Clone(formsOf(api.Head{Store: theStore(), Shape: shape, Key: key, Gen: api.Gen{Epoch: 1, Count: 1}}, "of "+key)[place]))
	}
	return s
}

// shelves is a scene of drives on which stand the shards of these keys.
func shelves(shape api.Shape, keys ...string) scene {
	return sceneOf(shape, spies(shape.K+shape.M, func(i int) *spy { return shelf(shape, i, keys...) }))
}

// wholeOf are the findings of these keys in such a store.
func wholeOf(shape api.Shape, keys ...string) []api.Finding {
	var l []api.Finding
	for _, key := range keys {
		l = append(l, api.Finding{Key: key, Kind: api.IsSure, Gen: api.Gen{Epoch: 1, Count: 1}, Whole: shape.K + shape.M})
	}
	return l
}

// keysOf are the keys of findings.
func keysOf(l []api.Finding) []string {
	var keys []string
	for _, f := range l {
		keys = append(keys, f.Key)
	}
	return keys
}
