package table

import (
	"bytes"
	"encoding/binary"
	"hash/crc32"
	"math/rand"
	"slices"
	"strings"

	"garner/api"
)

// The chapter's words, and those of the layers below it, done plainly, with numbers of their own, the library's varints and hash/crc32; they share nothing with the package, nor with the layers below it.

const (
	mostItems = 16384
	mostBlock = 256
	mostSize  = 65536
	mostBody  = 1 << 20
	mostCount = 1<<31 - 1
	mostValue = 4096
	mostKey   = 64
	mostPlain = 32
)

func plainMayBe(x api.Item) bool {
	c, p := x.Cell, x.Cell.Point
	if len(x.Key) == 0 || len(x.Key) > mostKey {
		return false
	}
	if c.Far && !x.Dead {
		return len(c.Bytes) == 0 && p.Seg >= 1 && p.Seg <= mostCount && p.At >= 0 && p.At <= mostCount && p.Len >= 0 && p.Len <= mostValue
	}
	if c.Far || p.Seg != 0 || p.At != 0 || p.Len != 0 || p.Sum != 0 {
		return false
	}
	return len(c.Bytes) == 0 || !x.Dead && len(c.Bytes) <= mostPlain
}

// plainBelow holds keys against each other byte by byte.
func plainBelow(a, b string) bool {
	for i := 0; i < len(a) && i < len(b); i++ {
		if a[i] != b[i] {
			return a[i] < b[i]
		}
	}
	return len(a) < len(b)
}

func plainSorted(l []api.Item) bool {
	for i, x := range l {
		if !plainMayBe(x) || i > 0 && !plainBelow(l[i-1].Key, x.Key) {
			return false
		}
	}
	return true
}

func plainSameItem(a, b api.Item) bool {
	return a.Key == b.Key && a.Dead == b.Dead && a.Cell.Far == b.Cell.Far && a.Cell.Point == b.Cell.Point &&
		string(a.Cell.Bytes) == string(b.Cell.Bytes)
}

func plainSame(a, b []api.Item) bool { return slices.EqualFunc(a, b, plainSameItem) }

func number(u uint64) []byte { return binary.AppendUvarint(nil, u) }

func plainSum(b []byte) uint32 {
	return crc32.Checksum(b, crc32.MakeTable(crc32.Castagnoli))
}

// frameBytes are those of a frame of any Kind and Body.
func frameBytes(f api.Frame) []byte {
	summed := slices.Concat([]byte{byte(f.Kind)}, f.Body)
	return binary.LittleEndian.AppendUint32(append(number(uint64(len(f.Body))), summed...), plainSum(summed))
}

func framesBytes(l ...api.Frame) []byte {
	var b []byte
	for _, f := range l {
		b = append(b, frameBytes(f)...)
	}
	return b
}

func cellBytes(c api.Cell) []byte {
	if !c.Far {
		return slices.Concat([]byte{0}, number(uint64(len(c.Bytes))), c.Bytes)
	}
	p := c.Point
	b := slices.Concat([]byte{1}, number(uint64(p.Seg)), number(uint64(p.At)), number(uint64(p.Len)))
	return binary.LittleEndian.AppendUint32(b, p.Sum)
}

// blockBytes are those of any items, also of such as may be no block.
func blockBytes(l []api.Item) []byte {
	b, ahead := number(uint64(len(l))), ""
	for _, x := range l {
		alike := 0
		for alike < len(x.Key) && strings.HasPrefix(ahead, x.Key[:alike+1]) {
			alike++
		}
		b = slices.Concat(b, number(uint64(alike)), number(uint64(len(x.Key)-alike)), []byte(x.Key[alike:]))
		if x.Dead {
			b = append(b, 1)
		} else {
			b = slices.Concat(b, []byte{0}, cellBytes(x.Cell))
		}
		ahead = x.Key
	}
	return b
}

// plainBits are a key's six bits in a sieve of n bytes.
func plainBits(n int, key string) []int {
	h := plainSum([]byte(key))
	d := h<<17 + h>>15
	if d%2 == 0 {
		d++
	}
	var l []int
	for i := range uint64(6) {
		l = append(l, int((uint64(h)+i*uint64(d))%(1<<32)%uint64(8*n)))
	}
	return l
}

func plainSieve(l []api.Item) []byte {
	b := make([]byte, len(l)+len(l)/10+1)
	for _, x := range l {
		for _, bit := range plainBits(len(b), x.Key) {
			b[bit/8] |= 1 << (bit % 8)
		}
	}
	return b
}

func plainMay(l []api.Item, key string) bool {
	b := plainSieve(l)
	for _, bit := range plainBits(len(b), key) {
		if b[bit/8]>>(bit%8)%2 == 0 {
			return false
		}
	}
	return true
}

// indexRow is what the index tells of one part.
func indexRow(key string, place int) []byte {
	return slices.Concat(number(uint64(len(key))), []byte(key), number(uint64(place)))
}

// plainFrames are those of a table of any parts, also of such as there may be none.
func plainFrames(list ...[]api.Item) []api.Frame {
	var frames []api.Frame
	var index []byte
	at := 0
	for _, l := range list {
		f := api.Frame{Kind: 1, Body: blockBytes(l)}
		first := ""
		if len(l) > 0 {
			first = l[0].Key
		}
		index = append(index, indexRow(first, at+len(number(uint64(len(f.Body))))+1)...)
		at += len(frameBytes(f))
		frames = append(frames, f)
	}
	all := slices.Concat(list...)
	return append(frames, api.Frame{Kind: 2, Body: index}, api.Frame{Kind: 3, Body: plainSieve(all)}, api.Frame{Kind: 4, Body: number(uint64(len(all)))})
}

func plainBytes(list ...[]api.Item) []byte { return framesBytes(plainFrames(list...)...) }

// plainParts takes items one by one off the list, as the words say.
func plainParts(l []api.Item, size int) [][]api.Item {
	var list [][]api.Item
	var part []api.Item
	weight := 0
	for len(l) > 0 {
		x := l[0]
		l = l[1:]
		part = append(part, x)
		weight += len(x.Key)
		weight += 16
		weight += len(x.Cell.Bytes)
		if weight >= size || len(part) >= 64 {
			list = append(list, part)
			part, weight = nil, 0
		}
	}
	if len(part) > 0 {
		list = append(list, part)
	}
	return list
}

// plainIsTable: whether there is a table of such parts; its index must be a frame's Body too.
func plainIsTable(list [][]api.Item) bool {
	for _, l := range list {
		if len(l) < 1 || len(l) > mostBlock {
			return false
		}
	}
	all := slices.Concat(list...)
	frames := plainFrames(list...)
	return len(all) >= 1 && len(all) <= mostItems && plainSorted(all) && len(frames[len(frames)-3].Body) <= mostBody
}

func plainMayMake(l []api.Item, size int) bool {
	return size >= 1 && size <= mostSize && plainIsTable(plainParts(l, size))
}

// reader takes parts off bytes, and is wrong once there were too few.
type reader struct {
	b     []byte
	wrong bool
}

func (r *reader) take(n uint64) []byte {
	if n > uint64(len(r.b)) {
		r.wrong, n = true, uint64(len(r.b))
	}
	part := r.b[:n]
	r.b = r.b[n:]
	return part
}

func (r *reader) one() int {
	if part := r.take(1); len(part) == 1 {
		return int(part[0])
	}
	return 0
}

func (r *reader) number() uint64 {
	u, n := binary.Uvarint(r.b)
	if n <= 0 {
		r.wrong, n = true, len(r.b)
	}
	r.b = r.b[n:]
	return u
}

func (r *reader) cell() api.Cell {
	if r.one() == 0 {
		return api.Cell{Bytes: r.take(r.number())}
	}
	p := api.Point{Seg: int(r.number()), At: int(r.number()), Len: int(r.number())}
	for i := range 4 {
		p.Sum |= uint32(r.one()) << (8 * i)
	}
	return api.Cell{Far: true, Point: p}
}

func (r *reader) item(ahead string) api.Item {
	alike, more := r.number(), r.number()
	x := api.Item{Key: ahead[:min(alike, uint64(len(ahead)))] + string(r.take(more))}
	if x.Dead = r.one() != 0; !x.Dead {
		x.Cell = r.cell()
	}
	return x
}

func (r *reader) block() []api.Item {
	var l []api.Item
	ahead := ""
	for i, n := uint64(0), r.number(); i < n && !r.wrong && i <= mostBlock; i++ {
		x := r.item(ahead)
		l = append(l, x)
		ahead = x.Key
	}
	return l
}

// plainOpen reads loosely: it is a table's bytes just if what was read are parts of a table whose bytes they are.
func plainOpen(b []byte) ([][]api.Item, bool) {
	r := &reader{b: b}
	var list [][]api.Item
	for !r.wrong && len(r.b) > 0 {
		n := r.number()
		kind := r.one()
		inner := &reader{b: r.take(n)}
		r.take(4)
		if kind != 1 {
			break
		}
		list = append(list, inner.block())
	}
	if !plainIsTable(list) || !bytes.Equal(plainBytes(list...), b) {
		return nil, false
	}
	return list, true
}

func plainFind(l []api.Item, key string) (api.Item, bool) {
	for _, x := range l {
		if x.Key == key {
			return x, true
		}
	}
	return api.Item{}, false
}

func plainScan(l []api.Item, lo, hi string, most int) []api.Item {
	var got []api.Item
	for _, x := range l {
		if plainBelow(x.Key, lo) || hi != "" && !plainBelow(x.Key, hi) {
			continue
		}
		if len(got) < most {
			got = append(got, x)
		}
	}
	return got
}

func newSource() *rand.Rand { return rand.New(rand.NewSource(13)) }

func someBytes(r *rand.Rand, n int) []byte {
	b := make([]byte, n)
	r.Read(b)
	return b
}

// someKey is a key that may be, mostly of few letters, so that keys have bytes alike.
func someKey(r *rand.Rand) string {
	if r.Intn(6) == 0 {
		return string(someBytes(r, 1+r.Intn(mostKey)))
	}
	letters := "\x00ab\x7f\x80\xff"
	b := make([]byte, 1+r.Intn(mostKey)>>r.Intn(7))
	for i := range b {
		b[i] = letters[r.Intn(len(letters))]
	}
	return string(b)
}

func someCell(r *rand.Rand) api.Cell {
	if r.Intn(2) == 0 {
		return api.Cell{Bytes: someBytes(r, r.Intn(mostPlain+1)>>r.Intn(6))}
	}
	return api.Cell{Far: true, Point: api.Point{
		Seg: 1 + r.Intn(mostCount)>>r.Intn(31),
		At:  r.Intn(mostCount) >> r.Intn(31),
		Len: r.Intn(mostValue+1) >> r.Intn(13),
		Sum: r.Uint32() >> r.Intn(32),
	}}
}

// someItem is one that may be.
func someItem(r *rand.Rand) api.Item {
	if r.Intn(4) == 0 {
		return api.Item{Key: someKey(r), Dead: true}
	}
	return api.Item{Key: someKey(r), Cell: someCell(r)}
}

func byKey(a, b api.Item) int {
	switch {
	case plainBelow(a.Key, b.Key):
		return -1
	case plainBelow(b.Key, a.Key):
		return 1
	}
	return 0
}

// someItems are in order, n of them.
func someItems(r *rand.Rand, n int) []api.Item {
	taken := map[string]int{}
	l := make([]api.Item, 0, n)
	for len(l) < n {
		x := someItem(r)
		if taken[x.Key]++; taken[x.Key] == 1 {
			l = append(l, x)
		}
	}
	slices.SortFunc(l, byKey)
	return l
}

// someParts are items in order, parted anyhow, with most in each part at most.
func someParts(r *rand.Rand, n, most int) [][]api.Item {
	var list [][]api.Item
	for l := someItems(r, n); len(l) > 0; {
		end := 1 + r.Intn(min(len(l), most))
		list = append(list, slices.Clone(l[:end]))
		l = l[end:]
	}
	return list
}
