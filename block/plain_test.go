package block

import (
	"bytes"
	"encoding/binary"
	"math/rand"
	"slices"
	"strings"

	"garner/api"
)

// The chapter's words, done plainly, with numbers of their own and the library's varints; they share nothing with the package, nor with the layers below it.

const (
	mostBlock = 256
	mostCount = 1<<31 - 1
	mostValue = 4096
	mostKey   = 64
	mostPlain = 32
)

func plainMayBe(x api.Item) bool {
	c, p := x.Cell, x.Cell.Point
	if len(x.Key) == 0 || len(x.Key) > mostKey {
		return false
	}
	if c.Far && !x.Dead {
		return len(c.Bytes) == 0 && p.Seg >= 1 && p.Seg <= mostCount && p.At >= 0 && p.At <= mostCount && p.Len >= 0 && p.Len <= mostValue
	}
	if c.Far || p.Seg != 0 || p.At != 0 || p.Len != 0 || p.Sum != 0 {
		return false
	}
	return len(c.Bytes) == 0 || !x.Dead && len(c.Bytes) <= mostPlain
}

// plainBelow holds keys against each other byte by byte.
func plainBelow(a, b string) bool {
	for i := 0; i < len(a) && i < len(b); i++ {
		if a[i] != b[i] {
			return a[i] < b[i]
		}
	}
	return len(a) < len(b)
}

func plainSorted(l []api.Item) bool {
	for i, x := range l {
		if !plainMayBe(x) || i > 0 && !plainBelow(l[i-1].Key, x.Key) {
			return false
		}
	}
	return true
}

func plainIsBlock(l []api.Item) bool {
	return len(l) >= 1 && len(l) <= mostBlock && plainSorted(l)
}

func plainSameItem(a, b api.Item) bool {
	return a.Key == b.Key && a.Dead == b.Dead && a.Cell.Far == b.Cell.Far && a.Cell.Point == b.Cell.Point &&
		string(a.Cell.Bytes) == string(b.Cell.Bytes)
}

func plainSame(a, b []api.Item) bool { return slices.EqualFunc(a, b, plainSameItem) }

// plainAlike tries all beginnings, the longest first.
func plainAlike(a, b string) int {
	for n := len(a); n > 0; n-- {
		if strings.HasPrefix(b, a[:n]) {
			return n
		}
	}
	return 0
}

func number(u uint64) []byte { return binary.AppendUvarint(nil, u) }

func cellBytes(c api.Cell) []byte {
	if !c.Far {
		return slices.Concat([]byte{0}, number(uint64(len(c.Bytes))), c.Bytes)
	}
	p := c.Point
	return slices.Concat([]byte{1}, number(uint64(p.Seg)), number(uint64(p.At)), number(uint64(p.Len)), []byte{byte(p.Sum), byte(p.Sum >> 8), byte(p.Sum >> 16), byte(p.Sum >> 24)})
}

// oneBytes tell of as many bytes alike as wanted, whether they are or not, and of items that may not be too.
func oneBytes(alike int, more string, x api.Item) []byte {
	b := slices.Concat(number(uint64(alike)), number(uint64(len(more))), []byte(more))
	if x.Dead {
		return append(b, 1)
	}
	return slices.Concat(b, []byte{0}, cellBytes(x.Cell))
}

// countedBytes are those of items, with any number ahead of them.
func countedBytes(n uint64, l ...api.Item) []byte {
	b, ahead := number(n), ""
	for _, x := range l {
		alike := plainAlike(ahead, x.Key)
		b = append(b, oneBytes(alike, x.Key[alike:], x)...)
		ahead = x.Key
	}
	return b
}

func plainBytes(l []api.Item) []byte { return countedBytes(uint64(len(l)), l...) }

// reader takes parts off bytes, and is wrong once there were too few.
type reader struct {
	b     []byte
	wrong bool
}

func (r *reader) take(n uint64) []byte {
	if n > uint64(len(r.b)) {
		r.wrong, n = true, uint64(len(r.b))
	}
	part := r.b[:n]
	r.b = r.b[n:]
	return part
}

func (r *reader) one() int {
	if part := r.take(1); len(part) == 1 {
		return int(part[0])
	}
	return 0
}

func (r *reader) number() uint64 {
	u, n := binary.Uvarint(r.b)
	if n <= 0 {
		r.wrong, n = true, len(r.b)
	}
	r.b = r.b[n:]
	return u
}

func (r *reader) cell() api.Cell {
	if r.one() == 0 {
		return api.Cell{Bytes: r.take(r.number())}
	}
	p := api.Point{Seg: int(r.number()), At: int(r.number()), Len: int(r.number())}
	for i := range 4 {
		p.Sum |= uint32(r.one()) << (8 * i)
	}
	return api.Cell{Far: true, Point: p}
}

func (r *reader) item(ahead string) api.Item {
	alike, more := r.number(), r.number()
	x := api.Item{Key: ahead[:min(alike, uint64(len(ahead)))] + string(r.take(more))}
	if x.Dead = r.one() != 0; !x.Dead {
		x.Cell = r.cell()
	}
	return x
}

// plainGet reads loosely: it is a block's bytes just if what was read are items in order whose bytes they are.
func plainGet(b []byte) ([]api.Item, api.Errno) {
	r := &reader{b: b}
	n := r.number()
	var l []api.Item
	ahead := ""
	for i := uint64(0); i < n && !r.wrong && i <= mostBlock; i++ {
		x := r.item(ahead)
		l = append(l, x)
		ahead = x.Key
	}
	if r.wrong || !plainIsBlock(l) || !bytes.Equal(plainBytes(l), b) {
		return nil, api.ErrText
	}
	return l, api.OK
}

func plainFind(b []byte, key string) (api.Item, bool, api.Errno) {
	l, err := plainGet(b)
	for _, x := range l {
		if x.Key == key {
			return x, true, err
		}
	}
	return api.Item{}, false, err
}

func newSource() *rand.Rand { return rand.New(rand.NewSource(12)) }

func someBytes(r *rand.Rand, n int) []byte {
	b := make([]byte, n)
	r.Read(b)
	return b
}

// someKey is a key that may be, mostly of few letters, so that keys have bytes alike.
func someKey(r *rand.Rand) string {
	if r.Intn(6) == 0 {
		return string(someBytes(r, 1+r.Intn(mostKey)))
	}
	letters := "\x00ab\x7f\x80\xff"
	b := make([]byte, 1+r.Intn(mostKey)>>r.Intn(7))
	for i := range b {
		b[i] = letters[r.Intn(len(letters))]
	}
	return string(b)
}

func someCell(r *rand.Rand) api.Cell {
	if r.Intn(2) == 0 {
		return api.Cell{Bytes: someBytes(r, r.Intn(mostPlain+1)>>r.Intn(6))}
	}
	return api.Cell{Far: true, Point: api.Point{
		Seg: 1 + r.Intn(mostCount)>>r.Intn(31),
		At:  r.Intn(mostCount) >> r.Intn(31),
		Len: r.Intn(mostValue+1) >> r.Intn(13),
		Sum: r.Uint32() >> r.Intn(32),
	}}
}

// someItem is one that may be.
func someItem(r *rand.Rand) api.Item {
	if r.Intn(4) == 0 {
		return api.Item{Key: someKey(r), Dead: true}
	}
	return api.Item{Key: someKey(r), Cell: someCell(r)}
}

func byKey(a, b api.Item) int {
	switch {
	case plainBelow(a.Key, b.Key):
		return -1
	case plainBelow(b.Key, a.Key):
		return 1
	}
	return 0
}

// someItems are in order, n of them.
func someItems(r *rand.Rand, n int) []api.Item {
	byKeys := map[string]api.Item{}
	for len(byKeys) < n {
		x := someItem(r)
		byKeys[x.Key] = x
	}
	l := make([]api.Item, 0, n)
	for _, x := range byKeys {
		l = append(l, x)
	}
	slices.SortFunc(l, byKey)
	return l
}
