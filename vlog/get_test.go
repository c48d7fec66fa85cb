package vlog

import (
	"math"
	"testing"

	"garner/api"
)

// wrongPoints are such as may not be.
func wrongPoints() []api.Point {
	var l []api.Point
	for _, n := range []int{-1, -2, -mostCount, math.MinInt, mostCount + 1, 1 << 32, 1<<32 + 1, math.MaxInt} {
		l = append(l, api.Point{Seg: n, At: 2, Len: 3}, api.Point{Seg: 1, At: n, Len: 3}, api.Point{Seg: 1, At: 2, Len: n})
	}
	return append(l, api.Point{}, api.Point{At: 2, Len: 3}, api.Point{Seg: 1, Len: mostValue + 1}, api.Point{Seg: -1, At: -1, Len: -1})
}

// Vl2, R2: a point that may not be, ahead of all else.
func TestGetOfWrongPoints(t *testing.T) {
	d := withFiles(t, plainBytes(bytesOf(3), bytesOf(4096)))
	for _, segs := range [][]int{nil, {1}, {2}, {1, 2}} {
		g := open(t, d, segs...)
		for range 2 {
			for _, p := range wrongPoints() {
				getsNot(t, g, p, api.ErrArg)
			}
			d.Stop(0)
		}
		d.Crash(api.Keep{})
	}
}

// Vl2, R2: a segment that is none, though its file is there, also of a dead disk.
func TestGetOfNoSegment(t *testing.T) {
	b := plainBytes(bytesOf(3))
	d := withFiles(t, b, b, b, b)
	for _, segs := range [][]int{nil, {2}, {2, 4}, {5}} {
		g := open(t, d, segs...)
		for range 2 {
			for _, seg := range []int{1, 3, 6, mostCount} {
				getsNot(t, g, plainPoint(seg, 0, bytesOf(3)), api.ErrNone)
				getsNot(t, g, api.Point{Seg: seg}, api.ErrNone)
				walks(t, g, seg, nil, api.ErrNone)
			}
			d.Stop(0)
		}
		d.Crash(api.Keep{})
	}
}

// Vl2: each point that was told, of each segment, and such whose Len or Sum is another.
func TestGetOfTold(t *testing.T) {
	l := [][]byte{bytesOf(3), nil, bytesOf(130), bytesOf(4095), nil, bytesOf(3), plainBytes(bytesOf(3))}
	d := newDisk(t, mostDisk)
	g := open(t, d, 3)
	told := map[int][]api.Point{3: puts(t, g, l...)}
	for _, seg := range []int{4, 9} {
		want(t, "Add", g.Add(seg), api.OK)
		told[seg] = puts(t, g, l...)
	}
	for range 2 {
		for seg, points := range told {
			walks(t, g, seg, points, api.OK)
			for i, p := range points {
				gets(t, g, p, l[i])
				longer, less, more := p, p, p
				longer.Len++
				less.Sum--
				more.Sum++
				getsNot(t, g, longer, api.ErrNone)
				getsNot(t, g, less, api.ErrNone)
				getsNot(t, g, more, api.ErrNone)
				if shorter := p; p.Len > 0 {
					shorter.Len--
					getsNot(t, g, shorter, api.ErrNone)
				}
			}
		}
		p, _ := plainOpen(d, g.Segs())
		same(t, "told", g, p)
		g = open(t, d, 3, 4, 9)
	}
}

// Vl2: points that end behind a segment's bytes, or stand behind them altogether.
func TestGetBehindTheEnd(t *testing.T) {
	b := plainBytes(bytesOf(3), bytesOf(20))
	d := withFiles(t, b, []byte{}, nil, b)
	g := open(t, d, 1, 2, 3, 4)
	for seg, n := range []int{0, len(b), 0, 0, len(b)} {
		if seg == 0 {
			continue
		}
		for _, size := range []int{0, 1, 2, 20, mostValue} {
			for _, at := range []int{n - size, n - size + 1, n, n + 1, n + 2, mostCount - 1, mostCount} {
				p := api.Point{Seg: seg, At: at, Len: size}
				if at >= 0 && at+size > n {
					getsNot(t, g, p, api.ErrNone)
				}
				if at >= 0 && at+size == n {
					// The bytes at the end itself are there, whatever they are.
					p.Sum = plainSum(b[at : at+size : len(b)])
					gets(t, g, p, b[at:at+size])
				}
			}
		}
	}
}

// Vl2: a segment without a file has no bytes, and no points.
func TestGetOfNoFile(t *testing.T) {
	d := newDisk(t, 100)
	g := open(t, d, 1, 2)
	for seg := 1; seg <= 2; seg++ {
		walks(t, g, seg, nil, api.OK)
		getsNot(t, g, plainPoint(seg, 0, bytesOf(3)), api.ErrNone)
		getsNot(t, g, plainPoint(seg, 0, nil), api.ErrNone)
		getsNot(t, g, api.Point{Seg: seg, Sum: 1}, api.ErrNone)
		gets(t, g, api.Point{Seg: seg}, nil)
	}
	if len(d.Names()) > 0 {
		t.Errorf("there are %q", d.Names())
	}
}

// Vl2, R2: a dead disk: what is there can't be read.
func TestGetOfDeadDisk(t *testing.T) {
	d := withFiles(t, plainBytes(bytesOf(9), nil), plainBytes(bytesOf(2)))
	g := open(t, d, 1, 2, 3)
	l := puts(t, g, bytesOf(3), nil)
	d.Stop(0)
	for _, p := range append(l, plainPoint(1, 0, bytesOf(9)), plainPoint(1, 15, nil), plainPoint(2, 0, bytesOf(2))) {
		getsNot(t, g, p, api.ErrDead)
	}
	for seg := 1; seg <= 3; seg++ {
		walks(t, g, seg, nil, api.ErrDead)
	}
	// What Size tells is known still.
	getsNot(t, g, api.Point{Seg: 2, At: 9}, api.ErrNone)
	getsNot(t, g, api.Point{Seg: 2, At: 2, Len: 7}, api.ErrNone)
	d.Crash(api.Keep{Names: 1, Tails: []int{999}})
	for i, p := range l {
		gets(t, g, p, [][]byte{bytesOf(3), nil}[i])
	}
}

// Vl2: Walk of bytes that are no values', in a segment that is not the last one: what stands there.
func TestWalkOfSpoilt(t *testing.T) {
	for what, wrong := range wrongFrames() {
		b := append(plainBytes(bytesOf(3), nil), wrong...)
		d := withFiles(t, b, wrong, plainBytes(bytesOf(1)))
		g := open(t, d, 1, 2, 3)
		l, _ := plainPoints(1, b)
		if len(l) != 2 {
			t.Fatal(what)
		}
		walks(t, g, 1, l, api.OK)
		walks(t, g, 2, nil, api.OK)
		gets(t, g, l[0], bytesOf(3))
		if g.Size(1) != len(b) || g.Size(2) != len(wrong) {
			t.Errorf("%s: Size %d, %d", what, g.Size(1), g.Size(2))
		}
	}
}

// Vl2: as much as a disk has room for, in one segment.
func TestGetOfMany(t *testing.T) {
	d := newDisk(t, mostDisk)
	g := open(t, d, 1)
	var l []api.Point
	for {
		p, e := g.Put(bytesOf(len(l) % 30))
		if e != api.OK {
			want(t, "Put", e, api.ErrFull)
			break
		}
		l = append(l, p)
	}
	walks(t, g, 1, l, api.OK)
	for i, p := range l {
		gets(t, g, p, bytesOf(i%30))
	}
	g = open(t, d, 1)
	walks(t, g, 1, l, api.OK)
}

func BenchmarkGet(b *testing.B) {
	d := newDisk(b, mostDisk)
	g := open(b, d, 1)
	p := puts(b, g, bytesOf(100))[0]
	for range 1000 {
		puts(b, g, bytesOf(4000))
	}
	for b.Loop() {
		g.Get(p)
	}
}
