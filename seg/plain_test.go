package seg

import (
	"bytes"
	"encoding/binary"
	"hash/crc32"
	"math/rand"
	"slices"

	"garner/api"
)

// The chapter's words done plainly, with numbers of their own; they share nothing with the package, nor with the layers below.

const (
	mostCount = 1<<31 - 1
	mostValue = 4096
	mostBytes = 1 << 22
	mostBody  = 1 << 20
	ofValues  = 2
)

func plainSum(b []byte) uint32 { return crc32.Checksum(b, crc32.MakeTable(crc32.Castagnoli)) }

// plainFrame puts any Kind of one byte, and a Body of any size.
func plainFrame(kind int, body []byte) []byte {
	summed := append([]byte{byte(kind)}, body...)
	b := append(binary.AppendUvarint(nil, uint64(len(body))), summed...)
	return binary.LittleEndian.AppendUint32(b, plainSum(summed))
}

// plainBytes puts values that are too long, too.
func plainBytes(l ...[]byte) []byte {
	var b []byte
	for _, value := range l {
		b = append(b, plainFrame(ofValues, value)...)
	}
	return b
}

func plainPut(l ...[]byte) ([]byte, api.Errno) {
	for _, value := range l {
		if len(value) > mostValue {
			return nil, api.ErrBig
		}
	}
	return plainBytes(l...), api.OK
}

// plainWalk reads loosely: a value stands there just if the bytes go on with its frame.
func plainWalk(seg int, b []byte) ([]api.Point, int) {
	if seg < 1 || seg > mostCount || len(b) > mostBytes {
		return nil, 0
	}
	var l []api.Point
	at := 0
	for {
		n, size := binary.Uvarint(b[at:])
		place := at + size + 1
		if size <= 0 || n > mostValue || place+int(n) > len(b) {
			return l, at
		}
		value := b[place : place+int(n)]
		whole := plainFrame(ofValues, value)
		if !bytes.HasPrefix(b[at:], whole) {
			return l, at
		}
		l = append(l, api.Point{Seg: seg, At: place, Len: int(n), Sum: plainSum(value)})
		at += len(whole)
	}
}

func plainMayBe(p api.Point) bool {
	return p.Seg >= 1 && p.Seg <= mostCount && p.At >= 0 && p.At <= mostCount && p.Len >= 0 && p.Len <= mostValue
}

func plainValue(b []byte, p api.Point) ([]byte, api.Errno) {
	if !plainMayBe(p) {
		return nil, api.ErrArg
	}
	if p.At > len(b) || p.Len > len(b[p.At:]) {
		return nil, api.ErrNone
	}
	value := b[p.At:][:p.Len]
	if plainSum(value) != p.Sum {
		return nil, api.ErrNone
	}
	return value, api.OK
}

func plainNext(seg, size int, value []byte) (api.Point, api.Errno) {
	if len(value) > mostValue {
		return api.Point{}, api.ErrBig
	}
	if size < 0 || size > mostCount {
		return api.Point{}, api.ErrArg
	}
	head := len(plainBytes(value)) - len(value) - 4
	p := api.Point{Seg: seg, At: size + head, Len: len(value), Sum: plainSum(value)}
	if !plainMayBe(p) {
		return api.Point{}, api.ErrArg
	}
	return p, api.OK
}

func newSource() *rand.Rand { return rand.New(rand.NewSource(19)) }

func someBytes(r *rand.Rand, n int) []byte {
	b := make([]byte, n)
	r.Read(b)
	return b
}

// someValue has any length that may be, the edges often.
func someValue(r *rand.Rand) []byte {
	edges := []int{0, 1, 2, 3, 126, 127, 128, 129, 300, 4095, 4096}
	if r.Intn(2) == 0 {
		return someBytes(r, edges[r.Intn(len(edges))])
	}
	return someBytes(r, r.Intn(mostValue+1)>>r.Intn(13))
}

func someValues(r *rand.Rand, n int) [][]byte {
	l := make([][]byte, n)
	for i := range l {
		l[i] = someValue(r)
	}
	return l
}

// bytesOf are n bytes, unlike from place to place.
func bytesOf(n int) []byte {
	b := make([]byte, n)
	for i := range b {
		b[i] = byte(i*7 + n)
	}
	return b
}

func sameValues(a, b [][]byte) bool { return slices.EqualFunc(a, b, bytes.Equal) }

func cloneValues(l [][]byte) [][]byte {
	clone := make([][]byte, len(l))
	for i, value := range l {
		clone[i] = slices.Clone(value)
	}
	return clone
}
