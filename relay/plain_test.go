package relay

import (
	"bytes"
	"encoding/binary"
	"hash/crc32"
	"math/rand"
	"slices"

	"garner/api"
)

// The chapter's words done plainly, with numbers of their own; they share nothing with the package, nor with the layers below.

const (
	mostCount = 1<<31 - 1
	mostValue = 4096
	mostList  = 16384
	moveKind  = 4
)

// plainFrame puts any Kind of one byte, and a Body of any size.
func plainFrame(kind int, body []byte) []byte {
	summed := append([]byte{byte(kind)}, body...)
	b := append(binary.AppendUvarint(nil, uint64(len(body))), summed...)
	return binary.LittleEndian.AppendUint32(b, crc32.Checksum(summed, crc32.MakeTable(crc32.Castagnoli)))
}

func plainPoint(p api.Point) []byte {
	b := binary.AppendUvarint(nil, uint64(p.Seg))
	b = binary.AppendUvarint(b, uint64(p.At))
	b = binary.AppendUvarint(b, uint64(p.Len))
	return binary.LittleEndian.AppendUint32(b, p.Sum)
}

// plainBody puts hops that may not be, too, and tells of any number of them.
func plainBody(seg int, count uint64, l []api.Hop) []byte {
	b := binary.AppendUvarint(nil, uint64(seg))
	b = binary.AppendUvarint(b, count)
	for _, h := range l {
		b = binary.AppendUvarint(b, uint64(h.At))
		b = append(b, plainPoint(h.To)...)
	}
	return b
}

func plainMove(seg int, l []api.Hop) []byte {
	return plainFrame(moveKind, plainBody(seg, uint64(len(l)), l))
}

func within(n, least, most int) bool { return least <= n && n <= most }

func plainPointMayBe(p api.Point) bool {
	return within(p.Seg, 1, mostCount) && within(p.At, 0, mostCount) && within(p.Len, 0, mostValue)
}

func plainMayBe(seg int, l []api.Hop) bool {
	if !within(seg, 1, mostCount) || len(l) > mostList {
		return false
	}
	for i, h := range l {
		if !within(h.At, 0, mostCount) || !plainPointMayBe(h.To) || h.To.Seg <= seg {
			return false
		}
		if i > 0 && l[i-1].At >= h.At {
			return false
		}
	}
	return true
}

func plainPut(seg int, l []api.Hop) ([]byte, api.Errno) {
	if !plainMayBe(seg, l) {
		return nil, api.ErrArg
	}
	return plainMove(seg, l), api.OK
}

// plainReader reads numbers loosely, however many bytes they have; what is missing, or too great, is -1.
type plainReader struct{ b []byte }

func (r *plainReader) number() int {
	u, n := binary.Uvarint(r.b)
	if n <= 0 || u > mostCount {
		r.b = nil
		return -1
	}
	r.b = r.b[n:]
	return int(u)
}

func (r *plainReader) sum() uint32 {
	if len(r.b) < 4 {
		r.b = nil
		return 0
	}
	sum := binary.LittleEndian.Uint32(r.b)
	r.b = r.b[4:]
	return sum
}

// plainGet reads loosely, and asks then whether the bytes are those of what was read.
func plainGet(b []byte) (int, []api.Hop, api.Errno) {
	_, size := binary.Uvarint(b)
	if size <= 0 || len(b) < size+5 {
		return 0, nil, api.ErrText
	}
	r := &plainReader{b: b[size+1 : len(b)-4]}
	seg, n := r.number(), r.number()
	var l []api.Hop
	for len(r.b) > 0 && len(l) < n {
		l = append(l, api.Hop{At: r.number(), To: api.Point{Seg: r.number(), At: r.number(), Len: r.number(), Sum: r.sum()}})
	}
	if again, err := plainPut(seg, l); err != api.OK || !bytes.Equal(again, b) {
		return 0, nil, api.ErrText
	}
	return seg, l, api.OK
}

// plainRelay has its moves in a list, the newest last.
type plainRelay struct {
	segs []int
	hops [][]api.Hop
}

func (r *plainRelay) set(seg int, l []api.Hop) api.Errno {
	if !plainMayBe(seg, l) {
		return api.ErrArg
	}
	r.drop(seg)
	r.segs = append(r.segs, seg)
	r.hops = append(r.hops, slices.Clone(l))
	return api.OK
}

func (r *plainRelay) drop(seg int) api.Errno {
	for i := range r.segs {
		if r.segs[i] == seg {
			r.segs = slices.Delete(r.segs, i, i+1)
			r.hops = slices.Delete(r.hops, i, i+1)
			return api.OK
		}
	}
	return api.ErrNone
}

func (r *plainRelay) all() []int {
	l := slices.Clone(r.segs)
	slices.Sort(l)
	return l
}

func (r *plainRelay) find(p api.Point) (api.Point, int, api.Errno) {
	if !plainPointMayBe(p) {
		return api.Point{}, 0, api.ErrArg
	}
	i := slices.Index(r.segs, p.Seg)
	if i < 0 {
		return p, 0, api.OK
	}
	for _, h := range r.hops[i] {
		if h.At == p.At && h.To.Len == p.Len && h.To.Sum == p.Sum {
			q, n, err := r.find(h.To)
			if err != api.OK {
				return api.Point{}, 0, err
			}
			return q, n + 1, api.OK
		}
	}
	return api.Point{}, 0, api.ErrNone
}

func newSource() *rand.Rand { return rand.New(rand.NewSource(21)) }

// someNumber is 0 to most, of any size, the edges often.
func someNumber(r *rand.Rand, most int) int {
	switch r.Intn(8) {
	case 0:
		return most
	case 1:
		return 0
	}
	return r.Intn(most+1) >> r.Intn(31)
}

// somePoint stands in a segment above seg.
func somePoint(r *rand.Rand, seg int) api.Point {
	return api.Point{
		Seg: seg + 1 + someNumber(r, mostCount-seg-1),
		At:  someNumber(r, mostCount),
		Len: someNumber(r, mostValue),
		Sum: r.Uint32(),
	}
}

// someHops may be of the segment seg, which is below mostCount.
func someHops(r *rand.Rand, seg, n int) []api.Hop {
	var places []int
	for range n {
		places = append(places, someNumber(r, mostCount))
	}
	slices.Sort(places)
	var l []api.Hop
	for _, at := range slices.Compact(places) {
		l = append(l, api.Hop{At: at, To: somePoint(r, seg)})
	}
	return l
}

// rising are n hops to the segment to.
func rising(n, to int) []api.Hop {
	l := make([]api.Hop, n)
	for i := range l {
		l[i] = api.Hop{At: 3 * i, To: api.Point{Seg: to, At: 5 * i, Len: i % (mostValue + 1), Sum: uint32(7 * i)}}
	}
	return l
}
