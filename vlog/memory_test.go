package vlog

import (
	"bytes"
	"fmt"
	"math"
	"slices"
	"testing"

	"garner/api"
)

// R1: a log that Open did not give, and nobody's: ErrState ahead of all else, and nothing.
func TestNobodys(t *testing.T) {
	for _, g := range []*Log{nil, {}, new(Log)} {
		for _, value := range [][]byte{nil, {}, bytesOf(3), make([]byte, mostValue+1)} {
			if p, e := g.Put(value); e != api.ErrState || p != (api.Point{}) {
				t.Errorf("Put: %v, %d", p, e)
			}
		}
		for _, p := range append(wrongPoints(), api.Point{Seg: 1}, plainPoint(1, 0, bytesOf(3))) {
			getsNot(t, g, p, api.ErrState)
		}
		for _, seg := range []int{0, -1, 1, 2, mostCount, mostCount + 1, math.MinInt, math.MaxInt} {
			walks(t, g, seg, nil, api.ErrState)
			want(t, "Add", g.Add(seg), api.ErrState)
			want(t, "Drop", g.Drop(seg), api.ErrState)
			if n := g.Size(seg); n != 0 {
				t.Errorf("Size(%d) = %d", seg, n)
			}
		}
		want(t, "Sync", g.Sync(), api.ErrState)
		hasSegs(t, g)
	}
}

// P1: whatever is handed in, calls end, and answer as the words say.
func TestGreatArguments(t *testing.T) {
	d := withFiles(t, bytes.Repeat([]byte{2}, mostDisk))
	g := open(t, d, 1)
	hasFile(t, d, 1, []byte{})
	refuses(t, "too many segments", d, make([]int, 1<<20), api.ErrArg)
	putsNot(t, "a great value", g, d, make([]byte, 1<<24), api.ErrBig)
	for _, n := range []int{math.MinInt, math.MinInt + 1, math.MaxInt - 1, math.MaxInt} {
		getsNot(t, g, api.Point{Seg: n, At: n, Len: n, Sum: math.MaxUint32}, api.ErrArg)
		walks(t, g, n, nil, api.ErrNone)
		want(t, "Add", g.Add(n), api.ErrArg)
		want(t, "Drop", g.Drop(n), api.ErrNone)
	}
	getsNot(t, g, api.Point{Seg: 1, At: mostCount, Len: mostValue, Sum: math.MaxUint32}, api.ErrNone)
}

// spoil turns all that can be reached from a list.
func spoil[T any](l []T, x T) {
	for i := range l[:cap(l)] {
		l[:cap(l)][i] = x
	}
}

// R3: Open writes neither to its segments, nor behind them, and keeps them not.
func TestSegsAreApart(t *testing.T) {
	whole := []int{1, 2, 5, 9, 10, 11}
	kept := slices.Clone(whole)
	d := newDisk(t, 1000)
	g := open(t, d, whole[:4]...)
	want(t, "Add", g.Add(10), api.OK)
	want(t, "Drop", g.Drop(2), api.OK)
	want(t, "Drop", g.Drop(1), api.OK)
	puts(t, g, bytesOf(3))
	refuses(t, "wrong segments", d, append(whole[:0:0], 3, 2), api.ErrArg)
	if !slices.Equal(whole, kept) {
		t.Fatal("a call wrote to the segments, or behind them")
	}
	spoil(whole, -7)
	hasSegs(t, g, 5, 9, 10)
}

// R3: what Segs tells is new: it is no part of the log, nor of another answer.
func TestToldSegsAreNew(t *testing.T) {
	g := open(t, newDisk(t, 1000), 1, 2, 5, 9)
	one, two := g.Segs(), g.Segs()
	spoil(one, -7)
	hasSegs(t, g, 1, 2, 5, 9)
	want(t, "Drop", g.Drop(2), api.OK)
	want(t, "Add", g.Add(10), api.OK)
	want(t, "Add", g.Add(0), api.ErrArg)
	if !slices.Equal(two, []int{1, 2, 5, 9}) {
		t.Error("a call wrote to what Segs told")
	}
	spoil(two, -7)
	spoil(g.Segs(), -7)
	hasSegs(t, g, 1, 5, 9, 10)
	want(t, "Drop", g.Drop(10), api.ErrArg)
}

// R3: Put writes neither to its value, nor behind it, and keeps it not.
func TestValuesAreApart(t *testing.T) {
	r := newSource()
	d := newDisk(t, mostDisk)
	g := open(t, d, 1)
	for range 200 {
		value := someValue(r)
		whole := append(slices.Clone(value), 1, 2, 3, 4, 5, 6, 7, 8)
		kept := slices.Clone(whole)
		p := puts(t, g, whole[:len(value)])[0]
		if !bytes.Equal(whole, kept) {
			t.Fatal("Put wrote to its value, or behind it")
		}
		spoil(whole, 255)
		gets(t, g, p, value)
	}
}

// R3: what Get and Walk tell is new: it is no part of the disk, nor of another answer.
func TestAnswersAreNew(t *testing.T) {
	l := [][]byte{bytesOf(3), nil, bytesOf(200)}
	b := plainBytes(l...)
	d := withFiles(t, b)
	g := open(t, d, 1)
	points, _ := plainPoints(1, b)
	for i, p := range points {
		one, _ := g.Get(p)
		two, _ := g.Get(p)
		spoil(one, 255)
		if !bytes.Equal(two, l[i]) {
			t.Fatal("two answers of Get share memory")
		}
		want(t, "Append", d.Append("x", two), api.OK)
	}
	one, _ := g.Walk(1)
	two, _ := g.Walk(1)
	spoil(one, api.Point{Seg: -7})
	if !slices.Equal(two, points) {
		t.Fatal("two answers of Walk share memory")
	}
	hasFile(t, d, 1, b)
	walks(t, g, 1, points, api.OK)
	value, _ := g.Get(points[2])
	want(t, "Cut", d.Cut(plainName(1), 0), api.OK)
	want(t, "Append", d.Append(plainName(1), make([]byte, len(b))), api.OK)
	if !bytes.Equal(value, l[2]) {
		t.Fatal("what Get told is a part of the disk")
	}
}

// R4: what is told hangs on the log and its disk: not on what is told of it again and again.
func TestAskingTurnsNothing(t *testing.T) {
	d := withFiles(t, append(plainBytes(bytesOf(3)), 1, 2), plainBytes(bytesOf(4), nil))
	g := open(t, d, 1, 2, 3)
	before := shape(d)
	d.Stop(1)
	for range 3 {
		p, _ := plainOpen(d.Clone(), []int{1, 2, 3})
		same(t, "asked", g, p)
	}
	if d.Dead() {
		t.Fatal("asking is an act")
	}
	d.Stop(-1)
	if shape(d) != before {
		t.Error("asking turned the disk")
	}
}

// R4: the same calls, the same answers.
func TestSameAgain(t *testing.T) {
	run := func() []string {
		r := newSource()
		d := newDisk(t, 1<<16)
		g := open(t, d, 1)
		var l []string
		for n := range 200 {
			p, e := g.Put(someValue(r))
			value, f := g.Get(p)
			points, h := g.Walk(1)
			l = append(l, fmt.Sprint(p, e, value, f, points, h, g.Segs(), surface(d)))
			if n%20 == 0 {
				g.Add(n)
				g.Drop(n / 2)
			}
		}
		return l
	}
	if !slices.Equal(run(), run()) {
		t.Error("another answer to the same calls")
	}
}
