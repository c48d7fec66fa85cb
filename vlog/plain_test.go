package vlog

import (
	"bytes"
	"encoding/binary"
	"fmt"
	"hash/crc32"
	"math/rand"
	"slices"
	"strings"
	"testing"

	"garner/api"
	"garner/disk"
)

// The chapter's words done plainly, act by act, with numbers, names and bytes of their own.

const (
	mostCount = 1<<31 - 1
	mostValue = 4096
	mostDisk  = 1 << 22
	mostSegs  = 64
	ofValues  = 2
)

func newSource() *rand.Rand { return rand.New(rand.NewSource(20)) }

func plainName(seg int) string { return fmt.Sprintf("v%010d", seg) }

func plainSum(b []byte) uint32 { return crc32.Checksum(b, crc32.MakeTable(crc32.Castagnoli)) }

// plainFrame puts any Kind of one byte, and a Body of any size.
func plainFrame(kind int, body []byte) []byte {
	summed := append([]byte{byte(kind)}, body...)
	b := append(binary.AppendUvarint(nil, uint64(len(body))), summed...)
	return binary.LittleEndian.AppendUint32(b, plainSum(summed))
}

// plainBytes is a segment's bytes.
func plainBytes(l ...[]byte) []byte {
	var b []byte
	for _, value := range l {
		b = append(b, plainFrame(ofValues, value)...)
	}
	return b
}

// plainPoints is the points of what stands there, and how many bytes that has.
func plainPoints(seg int, b []byte) ([]api.Point, int) {
	var l []api.Point
	at := 0
	for {
		n, size := binary.Uvarint(b[at:])
		place := at + size + 1
		if size <= 0 || n > mostValue || place+int(n) > len(b) {
			return l, at
		}
		value := b[place : place+int(n)]
		whole := plainBytes(value)
		if !bytes.HasPrefix(b[at:], whole) {
			return l, at
		}
		l = append(l, plainPoint(seg, at, value))
		at += len(whole)
	}
}

// plainPoint is the point of a value that is put behind so many bytes.
func plainPoint(seg, size int, value []byte) api.Point {
	head := len(plainBytes(value)) - len(value) - 4
	return api.Point{Seg: seg, At: size + head, Len: len(value), Sum: plainSum(value)}
}

type plain struct {
	d    *disk.Disk
	segs []int
}

func plainMayBe(segs []int) bool {
	for i, seg := range segs {
		if seg < 1 || seg > mostCount || i > 0 && segs[i-1] >= seg {
			return false
		}
	}
	return len(segs) <= mostSegs
}

func plainOpen(d *disk.Disk, segs []int) (*plain, api.Errno) {
	if d == nil || !plainMayBe(segs) {
		return nil, api.ErrArg
	}
	if d.Dead() {
		return nil, api.ErrDead
	}
	p := &plain{d: d, segs: slices.Clone(segs)}
	if len(segs) > 0 {
		if e := plainMend(d, segs[len(segs)-1]); e != api.OK {
			return nil, e
		}
	}
	return p, api.OK
}

func plainMend(d *disk.Disk, seg int) api.Errno {
	n, there := d.Size(plainName(seg))
	if !there {
		return api.OK
	}
	b, e := d.Read(plainName(seg), 0, n)
	if e != api.OK {
		return e
	}
	if _, right := plainPoints(seg, b); right < n {
		return d.Cut(plainName(seg), right)
	}
	return api.OK
}

func (p *plain) last() int { return p.segs[len(p.segs)-1] }

func (p *plain) put(value []byte) (api.Point, api.Errno) {
	if len(p.segs) == 0 {
		return api.Point{}, api.ErrState
	}
	if len(value) > mostValue {
		return api.Point{}, api.ErrBig
	}
	n, _ := p.d.Size(plainName(p.last()))
	if e := p.d.Append(plainName(p.last()), plainBytes(value)); e != api.OK {
		return api.Point{}, e
	}
	return plainPoint(p.last(), n, value), api.OK
}

func (p *plain) get(x api.Point) ([]byte, api.Errno) {
	if x.Seg < 1 || x.Seg > mostCount || x.At < 0 || x.At > mostCount || x.Len < 0 || x.Len > mostValue {
		return nil, api.ErrArg
	}
	n, there := p.d.Size(plainName(x.Seg))
	if !slices.Contains(p.segs, x.Seg) || x.At+x.Len > n {
		return nil, api.ErrNone
	}
	var b []byte
	if there {
		var e api.Errno
		if b, e = p.d.Read(plainName(x.Seg), 0, n); e != api.OK {
			return nil, e
		}
	}
	value := b[x.At : x.At+x.Len]
	if plainSum(value) != x.Sum {
		return nil, api.ErrNone
	}
	return value, api.OK
}

func (p *plain) walk(seg int) ([]api.Point, api.Errno) {
	if !slices.Contains(p.segs, seg) {
		return nil, api.ErrNone
	}
	n, there := p.d.Size(plainName(seg))
	if !there {
		return nil, api.OK
	}
	b, e := p.d.Read(plainName(seg), 0, n)
	if e != api.OK {
		return nil, e
	}
	l, _ := plainPoints(seg, b)
	return l, api.OK
}

func (p *plain) size(seg int) int {
	if !slices.Contains(p.segs, seg) {
		return 0
	}
	n, _ := p.d.Size(plainName(seg))
	return n
}

func (p *plain) sync() api.Errno {
	if len(p.segs) == 0 {
		return api.OK
	}
	if _, there := p.d.Size(plainName(p.last())); !there {
		return api.OK
	}
	return p.d.Sync(plainName(p.last()))
}

func (p *plain) add(seg int) api.Errno {
	more := append(slices.Clone(p.segs), seg)
	if !plainMayBe(more) {
		return api.ErrArg
	}
	if e := p.sync(); e != api.OK {
		return e
	}
	if e := plainMend(p.d, seg); e != api.OK {
		return e
	}
	p.segs = more
	return api.OK
}

func (p *plain) drop(seg int) api.Errno {
	if !slices.Contains(p.segs, seg) {
		return api.ErrNone
	}
	if seg == p.last() {
		return api.ErrArg
	}
	if _, there := p.d.Size(plainName(seg)); there {
		if e := p.d.Remove(plainName(seg)); e != api.OK {
			return e
		}
	}
	p.segs = slices.DeleteFunc(p.segs, func(x int) bool { return x == seg })
	return api.OK
}

func newDisk(t testing.TB, quota int) *disk.Disk {
	t.Helper()
	d, e := disk.New(quota)
	if e != api.OK {
		t.Fatalf("disk.New(%d): %d", quota, e)
	}
	return d
}

// withFiles is a disk with files of segments, from 1 on, safe; of nil there is none.
func withFiles(t testing.TB, files ...[]byte) *disk.Disk {
	t.Helper()
	d := newDisk(t, mostDisk)
	for i, b := range files {
		if b == nil {
			continue
		}
		want(t, "Append", d.Append(plainName(i+1), b), api.OK)
		want(t, "Sync", d.Sync(plainName(i+1)), api.OK)
	}
	want(t, "SyncNames", d.SyncNames(), api.OK)
	return d
}

func want(t testing.TB, what string, got, asked api.Errno) {
	t.Helper()
	if got != asked {
		t.Fatalf("%s: %d, want %d", what, got, asked)
	}
}

func open(t testing.TB, d *disk.Disk, segs ...int) *Log {
	t.Helper()
	g, e := Open(d, segs)
	if e != api.OK || g == nil {
		t.Fatalf("Open with %v: %v, %d", segs, g, e)
	}
	return g
}

// puts puts values that may be put, and tells their points.
func puts(t testing.TB, g *Log, l ...[]byte) []api.Point {
	t.Helper()
	var points []api.Point
	for _, value := range l {
		p, e := g.Put(value)
		want(t, "Put", e, api.OK)
		points = append(points, p)
	}
	return points
}

// gets asks Get for a value.
func gets(t testing.TB, g *Log, p api.Point, value []byte) {
	t.Helper()
	if b, e := g.Get(p); e != api.OK || !bytes.Equal(b, value) {
		t.Fatalf("Get(%v): %d bytes, %d, want %d bytes", p, len(b), e, len(value))
	}
}

// getsNot asks Get for an error, and nothing.
func getsNot(t testing.TB, g *Log, p api.Point, asked api.Errno) {
	t.Helper()
	if b, e := g.Get(p); e != asked || len(b) > 0 {
		t.Fatalf("Get(%v): %d bytes, %d, want %d", p, len(b), e, asked)
	}
}

// walks asks Walk for points, and an error.
func walks(t testing.TB, g *Log, seg int, l []api.Point, asked api.Errno) {
	t.Helper()
	if got, e := g.Walk(seg); e != asked || !slices.Equal(got, l) {
		t.Fatalf("Walk(%d): %v, %d, want %v, %d", seg, got, e, l, asked)
	}
}

// hasSegs asks for a log's segments.
func hasSegs(t testing.TB, g *Log, l ...int) {
	t.Helper()
	if got := g.Segs(); !slices.Equal(got, l) {
		t.Fatalf("Segs() = %v, want %v", got, l)
	}
}

// hasFile asks for all bytes of a segment's file.
func hasFile(t testing.TB, d *disk.Disk, seg int, b []byte) {
	t.Helper()
	n, there := d.Size(plainName(seg))
	got, e := d.Read(plainName(seg), 0, n)
	if !there || e != api.OK || !slices.Equal(got, b) {
		t.Fatalf("the file of %d has %v (%v, %d), want %v", seg, got, there, e, b)
	}
}

// same asks a log for all that it tells, of segments and points that are near
// to those that it has.
func same(t testing.TB, what string, g *Log, p *plain) {
	t.Helper()
	if !slices.Equal(g.Segs(), p.segs) {
		t.Fatalf("%s: Segs() = %v, want %v", what, g.Segs(), p.segs)
	}
	near := []int{0, mostCount}
	for _, seg := range p.segs {
		near = append(near, seg-1, seg, seg+1)
	}
	for _, seg := range near {
		if got, asked := g.Size(seg), p.size(seg); got != asked {
			t.Fatalf("%s: Size(%d) = %d, want %d", what, seg, got, asked)
		}
		l, asked := p.walk(seg)
		walks(t, g, seg, l, asked)
		for _, x := range l {
			sameGet(t, what, g, p, x)
			for _, y := range spoilt(x) {
				sameGet(t, what, g, p, y)
			}
		}
		sameGet(t, what, g, p, api.Point{Seg: seg})
	}
}

func sameGet(t testing.TB, what string, g *Log, p *plain, x api.Point) {
	t.Helper()
	value, asked := p.get(x)
	if got, e := g.Get(x); e != asked || !bytes.Equal(got, value) {
		t.Fatalf("%s: Get(%v): %d bytes, %d, want %d bytes, %d", what, x, len(got), e, len(value), asked)
	}
}

// spoilt are points that are near to one.
func spoilt(x api.Point) []api.Point {
	var l []api.Point
	for _, n := range []int{-1, 1} {
		at, size, sum, seg := x, x, x, x
		at.At += n
		size.Len += n
		sum.Sum += uint32(n)
		seg.Seg += n
		l = append(l, at, size, sum, seg)
	}
	return l
}

// surface is all that a disk tells now.
func surface(d *disk.Disk) string {
	var s strings.Builder
	for _, name := range d.Names() {
		n, _ := d.Size(name)
		b, e := d.Read(name, 0, n)
		fmt.Fprintf(&s, "%q %d %x %d\n", name, n, b, e)
	}
	fmt.Fprintf(&s, "%d %d %v\n", d.Used(), d.Room(), d.Dead())
	return s.String()
}

// shape is all that a disk tells, now and behind crashes.
func shape(d *disk.Disk) string {
	l := []string{surface(d)}
	for _, names := range []int{0, 1, 2, 99} {
		for _, tails := range [][]int{nil, {1}, {5}, {9999}, {0, 9999}, {9999, 3}, {9999, 9999}} {
			c := d.Clone()
			c.Crash(api.Keep{Names: names, Tails: tails})
			l = append(l, surface(c))
		}
	}
	return strings.Join(l, "--\n")
}

// trip lets a disk die behind n acts, or not do the one behind n.
func trip(d *disk.Disk, n int, stop bool) {
	if stop {
		d.Stop(n)
	} else {
		d.Fault(n + 1)
	}
}

// acts is how many acts a call does on a disk: behind as many it dies.
func acts(t testing.TB, d *disk.Disk, call func(d *disk.Disk)) int {
	t.Helper()
	for n := 1; n < 20; n++ {
		c := d.Clone()
		c.Stop(n)
		call(c)
		if !c.Dead() {
			return n - 1
		}
	}
	t.Fatal("there is no end of acts")
	return 0
}

// segsUpTo are the segments from 1 on up to n.
func segsUpTo(n int) []int {
	var l []int
	for seg := range n {
		l = append(l, seg+1)
	}
	return l
}

// bytesOf are n bytes, unlike from place to place.
func bytesOf(n int) []byte {
	b := make([]byte, n)
	for i := range b {
		b[i] = byte(i*7 + n)
	}
	return b
}

// someValue has any length that may be, the edges often.
func someValue(r *rand.Rand) []byte {
	edges := []int{0, 1, 2, 3, 126, 127, 128, 129, 300, 4095, 4096}
	n := r.Intn(mostValue+1) >> r.Intn(13)
	if r.Intn(3) == 0 {
		n = edges[r.Intn(len(edges))]
	}
	b := make([]byte, n)
	r.Read(b)
	return b
}
