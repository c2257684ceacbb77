package parts_test

import (
	"encoding/binary"
	"errors"
	"fmt"
	"hash/crc32"
	"maps"
	"math/rand"
	"slices"
	"strings"
	"testing"

	"cairn/api"
	"cairn/parts"
	"cairn/store"
)

func fatalUnless(t *testing.T, is bool, says string, args ...any) {
	t.Helper()
	if !is {
		t.Fatalf(says, args...)
	}
}

func source(seed int64) *rand.Rand { return rand.New(rand.NewSource(seed)) }

// pick is one of the list.
func pick[E any](r *rand.Rand, l ...E) E { return l[r.Intn(len(l))] }

// small is the shape of the chapter's examples.
func small() api.Shape { return api.Shape{K: 2, M: 1, Block: 4} }

// theStore is the name of the store that the tests play with.
func theStore() [8]byte { return [8]byte{7, 7: 9} }

// Own keys, as the chapter's table says.

func numberKey(n int) string      { return "\x00n" + high32(n) }
func recordKey(n int) string      { return "\x00u" + high32(n) }
func markKey(n int) string        { return "\x00f" + high32(n) }
func partsKey(n int) string       { return "\x00p" + high32(n) }
func manifestKey(k string) string { return "\x00m" + k }

func partKey(n, p int) string {
	return partsKey(n) + string(binary.BigEndian.AppendUint16(nil, uint16(p)))
}

func high32(n int) string { return string(binary.BigEndian.AppendUint32(nil, uint32(n))) }

// manifestOf is a manifest's bytes, as the chapter says.
func manifestOf(upload int, key string, list ...api.Part) string {
	b := binary.LittleEndian.AppendUint32(nil, uint32(upload))
	b = append(binary.AppendUvarint(b, uint64(len(key))), key...)
	b = binary.AppendUvarint(b, uint64(len(list)))
	for _, p := range list {
		b = binary.LittleEndian.AppendUint16(b, uint16(p.Number))
		b = binary.LittleEndian.AppendUint32(b, uint32(p.Size))
		b = binary.LittleEndian.AppendUint32(b, p.Sum)
	}
	return string(b)
}

// readByHand is the upload and the parts that a manifest tells, one that this layer has put.
func readByHand(text string) (int, []api.Part) {
	b := []byte(text)
	upload := int(binary.LittleEndian.Uint32(b))
	n, w := binary.Uvarint(b[4:])
	b = b[4+w+int(n):]
	count, w := binary.Uvarint(b)
	b = b[w:]
	list := make([]api.Part, count)
	for i := range list {
		list[i] = api.Part{Number: int(binary.LittleEndian.Uint16(b)), Size: int(binary.LittleEndian.Uint32(b[2:])), Sum: binary.LittleEndian.Uint32(b[6:])}
		b = b[10:]
	}
	return upload, list
}

// partOf is the part that has these bytes.
func partOf(number int, data string) api.Part {
	return api.Part{Number: number, Size: len(data), Sum: crc32.Checksum([]byte(data), crc32.MakeTable(crc32.Castagnoli))}
}

// call is a call of the uploads, with all that it is handed.
type call struct {
	op             string
	key            string
	upload, number int
	data           string
	list           []api.Part
	off, n         int
}

// answer is what a call answers: all but the number as a text.
type answer struct {
	says   string
	number api.Errno
}

func (a answer) String() string { return fmt.Sprintf("%s, error %d", a.says, int(a.number)) }

// saying is a text of all that calls answer; the zero one stands beside errors.
func saying(n int, p api.Part, list []api.Part, open []int, data string) string {
	return fmt.Sprintf("%d %v %v %v %q", n, p, list, open, data)
}

var nothing = saying(0, api.Part{}, nil, nil, "")

// ask makes the call of uploads.
func ask(u *parts.Uploads, c call) answer {
	var (
		n      int
		p      api.Part
		list   []api.Part
		open   []int
		data   []byte
		number api.Errno
	)
	switch c.op {
	case "begin":
		n, number = u.Begin(c.key)
	case "put":
		p, number = u.Put(c.key, c.upload, c.number, []byte(c.data))
	case "list":
		list, number = u.List(c.key, c.upload)
	case "finish":
		number = u.Finish(c.key, c.upload, c.list)
	case "abort":
		number = u.Abort(c.key, c.upload)
	case "open":
		open, number = u.Open(c.key)
	case "size":
		n, number = u.Size(c.key)
	case "read":
		data, number = u.Read(c.key, c.off, c.n)
	case "delete":
		number = u.Delete(c.key)
	case "sweep":
		n, number = u.Sweep()
	default:
		panic(c.op)
	}
	return answer{saying(n, p, list, open, string(data)), number}
}

// everyOp are the words of the calls.
var everyOp = []string{"begin", "put", "list", "finish", "abort", "open", "size", "read", "delete", "sweep"}

// hand is uploads by hand: the chapter's words, over a store whose calls are written down.
type hand struct {
	s   *store.Store
	log []string
}

// ended is the panic by which a call by hand is told an error of the store.
type ended api.Errno

// told writes a call of the store down, and ends the call by hand unless the number is OK or one of those.
func (h *hand) told(err error, on []api.Errno, says string, args ...any) api.Errno {
	var number api.Errno
	if err != nil && !errors.As(err, &number) {
		panic(err)
	}
	h.log = append(h.log, fmt.Sprintf(says, args...)+fmt.Sprint(" ", int(number)))
	if number != 0 && !slices.Contains(on, number) {
		panic(ended(number))
	}
	return number
}

func (h *hand) put(key, data string, on ...api.Errno) api.Errno {
	return h.told(h.s.Put(key, []byte(data)), on, "put %q", key)
}

func (h *hand) get(key string, on ...api.Errno) (string, api.Errno) {
	b, err := h.s.Get(key)
	return string(b), h.told(err, on, "get %q", key)
}

func (h *hand) del(key string, on ...api.Errno) api.Errno {
	return h.told(h.s.Delete(key), on, "delete %q", key)
}

func (h *hand) list(prefix string) []string {
	l, err := h.s.List(prefix)
	h.told(err, nil, "list %q", prefix)
	return l
}

func (h *hand) heal() {
	_, err := h.s.Heal()
	h.told(err, nil, "heal")
}

// quietly does something of which nothing is told: it ends with the first that is refused.
func (h *hand) quietly(do func()) {
	defer func() {
		if x := recover(); x != nil {
			_ = x.(ended)
		}
	}()
	do()
}

// ask makes the call in the words of the chapter.
func (h *hand) ask(c call) (a answer) {
	defer func() {
		if x := recover(); x != nil {
			a = answer{nothing, api.Errno(x.(ended))}
		}
	}()
	h.log = nil
	if c.op != "sweep" {
		switch {
		case len(c.key) == 0 || len(c.key) > 253:
			panic(ended(90))
		case c.key[0] == 0:
			panic(ended(262))
		}
	}
	switch c.op {
	case "begin":
		return h.begin(c)
	case "put":
		return h.putPart(c)
	case "list":
		return h.listParts(c)
	case "finish":
		h.finish(c)
	case "abort":
		h.abort(c)
	case "open":
		return h.open(c)
	case "size":
		return h.size(c)
	case "read":
		return h.read(c)
	case "delete":
		h.delete(c)
	case "sweep":
		return h.sweep()
	}
	return answer{nothing, 0}
}

func (h *hand) begin(c call) answer {
	given := h.list("\x00n")
	n := 1
	for _, k := range given {
		n = max(n, int(binary.BigEndian.Uint32([]byte(k[2:])))+1)
	}
	if n > 1<<32-1 {
		panic(ended(181))
	}
	h.put(numberKey(n), "")
	h.put(recordKey(n), c.key)
	h.quietly(func() {
		for _, k := range given {
			h.del(k, 200)
		}
	})
	return answer{saying(n, api.Part{}, nil, nil, ""), 0}
}

func (h *hand) record(c call) {
	if c.upload < 1 || c.upload > 1<<32-1 {
		panic(ended(260))
	}
	of, number := h.get(recordKey(c.upload), 200)
	if number == 200 || of != c.key {
		panic(ended(260))
	}
}

func (h *hand) putPart(c call) answer {
	if c.number < 1 || c.number > 10000 {
		panic(ended(2))
	}
	h.record(c)
	h.put(partKey(c.upload, c.number), c.data)
	return answer{saying(0, partOf(c.number, c.data), nil, nil, ""), 0}
}

func (h *hand) listParts(c call) answer {
	h.record(c)
	var list []api.Part
	for _, k := range h.list(partsKey(c.upload)) {
		if data, number := h.get(k, 200); number == 0 {
			list = append(list, partOf(int(k[6])<<8|int(k[7]), data))
		}
	}
	return answer{saying(0, api.Part{}, list, nil, ""), 0}
}

func checkList(list []api.Part) {
	sizes := 0
	for i, p := range list {
		if i > 0 && p.Number <= list[i-1].Number || p.Number < 1 || p.Number > 10000 || p.Size < 0 || p.Size > 1<<20 {
			panic(ended(2))
		}
		sizes += p.Size
	}
	if sizes > 1<<33 {
		panic(ended(263))
	}
}

func (h *hand) finish(c call) {
	checkList(c.list)
	h.record(c)
	_, _, err := h.s.Stat(c.key)
	if h.told(err, []api.Errno{200}, "stat %q", c.key) == 0 {
		panic(ended(190))
	}
	if text, number := h.get(manifestKey(c.key), 200); number == 0 {
		if n, _ := readByHand(text); n != c.upload {
			panic(ended(190))
		}
		h.heal()
		text, _ = h.get(manifestKey(c.key))
		if n, _ := readByHand(text); n != c.upload {
			panic(ended(190))
		}
		h.clean(text)
		return
	}
	for _, p := range c.list {
		data, number := h.get(partKey(c.upload, p.Number), 200)
		if number == 200 || len(data) != p.Size || partOf(p.Number, data).Sum != p.Sum {
			panic(ended(261))
		}
	}
	text := manifestOf(c.upload, c.key, c.list...)
	if h.put(markKey(c.upload), text, 190) == 190 {
		h.heal()
		if kept, _ := h.get(markKey(c.upload)); kept != text {
			panic(ended(190))
		}
	}
	h.put(manifestKey(c.key), text)
	h.clean(text)
}

func (h *hand) clean(text string) {
	upload, list := readByHand(text)
	h.quietly(func() {
		for _, k := range h.list(partsKey(upload)) {
			if !isListed(k, upload, list) {
				h.del(k, 200)
			}
		}
		h.del(recordKey(upload), 200)
		h.del(markKey(upload), 200)
	})
}

func isListed(key string, upload int, list []api.Part) bool {
	return slices.ContainsFunc(list, func(p api.Part) bool { return partKey(upload, p.Number) == key })
}

func (h *hand) abort(c call) {
	h.record(c)
	_, marked := h.get(markKey(c.upload), 200)
	if marked == 0 {
		h.heal()
	}
	if text, number := h.get(manifestKey(c.key), 200); number == 0 {
		if n, _ := readByHand(text); n == c.upload {
			panic(ended(190))
		}
	}
	h.del(recordKey(c.upload))
	if marked == 0 {
		h.del(markKey(c.upload), 200)
	}
	h.quietly(func() {
		for _, k := range h.list(partsKey(c.upload)) {
			h.del(k, 200)
		}
	})
}

func (h *hand) open(c call) answer {
	var open []int
	for _, k := range h.list("\x00u") {
		if of, number := h.get(k, 200); number == 0 && of == c.key {
			open = append(open, int(binary.BigEndian.Uint32([]byte(k[2:]))))
		}
	}
	return answer{saying(0, api.Part{}, nil, open, ""), 0}
}

func (h *hand) size(c call) answer {
	_, size, err := h.s.Stat(c.key)
	if h.told(err, []api.Errno{200}, "stat %q", c.key) == 200 {
		text, _ := h.get(manifestKey(c.key))
		_, list := readByHand(text)
		for _, p := range list {
			size += p.Size
		}
	}
	return answer{saying(size, api.Part{}, nil, nil, ""), 0}
}

func (h *hand) read(c call) answer {
	if c.off < 0 || c.n < 0 {
		panic(ended(2))
	}
	b, err := h.s.Range(c.key, c.off, c.n)
	if h.told(err, []api.Errno{200}, "range %q %d %d", c.key, c.off, c.n) == 0 {
		return answer{saying(0, api.Part{}, nil, nil, string(b)), 0}
	}
	text, _ := h.get(manifestKey(c.key))
	upload, list := readByHand(text)
	var all []byte
	at, left, skip := 0, c.n, c.off
	for _, p := range list {
		from := min(skip, p.Size)
		n := min(left, p.Size-from)
		if n > 0 {
			key := partKey(upload, p.Number)
			b, err := h.s.Range(key, from, n)
			if h.told(err, []api.Errno{200, 201}, "range %q %d %d", key, from, n) != 0 {
				panic(ended(261))
			}
			all = append(all, b...)
		}
		skip, left, at = skip-from, left-n, at+p.Size
	}
	if c.off > at {
		panic(ended(201))
	}
	return answer{saying(0, api.Part{}, nil, nil, string(all)), 0}
}

func (h *hand) delete(c call) {
	if h.del(c.key, 200) == 0 {
		return
	}
	text, _ := h.get(manifestKey(c.key))
	h.del(manifestKey(c.key))
	upload, list := readByHand(text)
	h.quietly(func() {
		h.del(recordKey(upload), 200)
		h.del(markKey(upload), 200)
		for _, p := range list {
			h.del(partKey(upload, p.Number), 200)
		}
	})
}

func (h *hand) sweep() answer {
	h.heal()
	told := h.list("\x00")
	objects := map[string][]api.Part{} // by the upload's four bytes
	uploads := map[string]bool{}
	var numbers []string
	for _, k := range told {
		switch k[1] {
		case 'm':
			if text, number := h.get(k, 200); number == 0 {
				n, list := readByHand(text)
				objects[high32(n)] = list
			}
		case 'n':
			numbers = append(numbers, k)
		default:
			uploads[k[2:6]] = true
		}
	}
	away := 0
	del := func(key string) {
		if h.del(key, 200) == 0 {
			away++
		}
	}
	for _, u := range slices.Sorted(maps.Keys(uploads)) {
		list, has := objects[u]
		record := slices.Contains(told, "\x00u"+u)
		if !has && record {
			continue
		}
		for _, k := range told {
			if strings.HasPrefix(k, "\x00p"+u) && !slices.ContainsFunc(list, func(p api.Part) bool { return p.Number == int(k[6])<<8|int(k[7]) }) {
				del(k)
			}
		}
		for _, k := range []string{"\x00u" + u, "\x00f" + u} {
			if slices.Contains(told, k) {
				del(k)
			}
		}
	}
	for i, k := range numbers {
		if i < len(numbers)-1 {
			del(k)
		}
	}
	return answer{saying(away, api.Part{}, nil, nil, ""), 0}
}
