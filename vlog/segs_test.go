package vlog

import (
	"fmt"
	"math"
	"slices"
	"testing"

	"garner/api"
	"garner/disk"
)

// checkTurn asks a call, with trouble at each act and without, for what the
// words say; then it is asked again.
func checkTurn(t *testing.T, d *disk.Disk, segs []int, call func(g *Log) api.Errno, asked func(p *plain) api.Errno) {
	t.Helper()
	for n := -1; n < 4; n++ {
		for _, stop := range []bool{true, false} {
			c, q := d.Clone(), d.Clone()
			g := open(t, c, segs...)
			p, _ := plainOpen(q, segs)
			trip(c, n, stop)
			trip(q, n, stop)
			what := fmt.Sprintf("trouble (%v) at act %d", stop, n)
			for range 2 {
				want(t, what, call(g), asked(p))
				same(t, what, g, p)
			}
			if shape(c) != shape(q) {
				t.Fatalf("%s: the disk has\n%swant\n%s", what, surface(c), surface(q))
			}
		}
	}
}

func checkAdd(t *testing.T, d *disk.Disk, segs []int, seg int) {
	t.Helper()
	checkTurn(t, d, segs, func(g *Log) api.Errno { return g.Add(seg) }, func(p *plain) api.Errno { return p.add(seg) })
}

func checkDrop(t *testing.T, d *disk.Disk, segs []int, seg int) {
	t.Helper()
	checkTurn(t, d, segs, func(g *Log) api.Errno { return g.Drop(seg) }, func(p *plain) api.Errno { return p.drop(seg) })
}

// Vl3, R2: numbers that are not above the last one, or no segment's: ahead of what the disk refuses, and nothing is done.
func TestAddOfWrongSegs(t *testing.T) {
	b := plainBytes(bytesOf(3))
	for _, segs := range [][]int{nil, {7}, {3, 7}, {1, 2, 3, 7}, {mostCount - 1}, {mostCount}, {1, mostCount}} {
		d := withFiles(t, b, b, b)
		g := open(t, d, segs...)
		wrong := []int{0, -1, -mostCount, math.MinInt, mostCount + 1, mostCount + 2, 1 << 32, 1<<32 + 9, math.MaxInt}
		if len(segs) > 0 {
			last := segs[len(segs)-1]
			wrong = append(wrong, last, last-1, 1, 2, 5)
		}
		before := shape(d)
		for _, seg := range wrong {
			want(t, fmt.Sprintf("Add(%d) to %v", seg, segs), g.Add(seg), api.ErrArg)
			hasSegs(t, g, segs...)
		}
		if shape(d) != before {
			t.Fatal("something was done")
		}
		d.Stop(0)
		for _, seg := range wrong {
			want(t, "Add on a dead disk", g.Add(seg), api.ErrArg)
		}
		hasSegs(t, g, segs...)
	}
}

// Vl3: numbers at the edges that may be added, one behind the other.
func TestAddOfRightSegs(t *testing.T) {
	g := open(t, newDisk(t, 100))
	var l []int
	for _, seg := range []int{1, 2, 3, 127, 128, 1 << 30, mostCount - 1, mostCount} {
		want(t, "Add", g.Add(seg), api.OK)
		l = append(l, seg)
		hasSegs(t, g, l...)
		walks(t, g, seg, nil, api.OK)
	}
	want(t, "Add", g.Add(mostCount), api.ErrArg)
	hasSegs(t, g, l...)
}

// Vl3: the 64th segment, and none beyond it, till one is dropped.
func TestAddOfMany(t *testing.T) {
	g := open(t, newDisk(t, 1000), segsUpTo(63)...)
	want(t, "the 64th", g.Add(70), api.OK)
	for _, seg := range []int{71, 64, mostCount, 0} {
		want(t, "a 65th", g.Add(seg), api.ErrArg)
	}
	hasSegs(t, g, append(segsUpTo(63), 70)...)
	puts(t, g, bytesOf(3))
	want(t, "Drop", g.Drop(30), api.OK)
	want(t, "the 64th again", g.Add(71), api.OK)
	hasSegs(t, g, slices.Concat(segsUpTo(29), segsUpTo(63)[30:], []int{70, 71})...)
	want(t, "a 65th", g.Add(72), api.ErrArg)
}

// Vl3: the first one of a log without segments, to which values are put from then on.
func TestAddOfTheFirst(t *testing.T) {
	d := newDisk(t, 1000)
	g := open(t, d)
	want(t, "Add", g.Add(5), api.OK)
	hasSegs(t, g, 5)
	if len(d.Names()) > 0 {
		t.Errorf("there are %q", d.Names())
	}
	p := puts(t, g, bytesOf(3))[0]
	if p != plainPoint(5, 0, bytesOf(3)) {
		t.Errorf("Put: %v", p)
	}
	gets(t, g, p, bytesOf(3))
	checkAdd(t, newDisk(t, 0), nil, 1)
	checkAdd(t, newDisk(t, 0), nil, mostCount)
	checkAdd(t, newDisk(t, 0), nil, 0)
}

// Vl3: the last one is that to which values are put; what was put ahead is safe then, and got still.
func TestAdd(t *testing.T) {
	d := withFiles(t, []byte{})
	g := open(t, d, 1)
	p := puts(t, g, bytesOf(3), nil)
	if n := acts(t, d, func(c *disk.Disk) { open(t, c, 1).Add(2) }); n != 1 {
		t.Errorf("%d acts", n)
	}
	checkAdd(t, d, []int{1}, 2)
	want(t, "Add", g.Add(2), api.OK)
	hasSegs(t, g, 1, 2)
	q := puts(t, g, bytesOf(4))
	if q[0] != plainPoint(2, 0, bytesOf(4)) {
		t.Fatalf("Put: %v", q)
	}
	hasFile(t, d, 1, plainBytes(bytesOf(3), nil))
	hasFile(t, d, 2, plainBytes(bytesOf(4)))
	walks(t, g, 1, p, api.OK)
	walks(t, g, 2, q, api.OK)
	gets(t, g, p[0], bytesOf(3))
	gets(t, g, q[0], bytesOf(4))
	d.Crash(api.Keep{})
	hasFile(t, d, 1, plainBytes(bytesOf(3), nil))
}

// Vl3: a last one without a file: nothing is to be synced, and nothing is done.
func TestAddBehindNoFile(t *testing.T) {
	d := newDisk(t, 100)
	want(t, "Append", d.Append(plainName(1), plainBytes(bytesOf(3))), api.OK)
	if n := acts(t, d, func(c *disk.Disk) { want(t, "Add", open(t, c, 1, 2).Add(3), api.OK) }); n != 0 {
		t.Errorf("%d acts", n)
	}
	checkAdd(t, d, []int{1, 2}, 3)
}

// Vl3: a Sync that tells an error: it is not added, and values are put to the last one still.
func TestAddWithTrouble(t *testing.T) {
	for _, asked := range []api.Errno{api.ErrFault, api.ErrDead} {
		d := withFiles(t, plainBytes(bytesOf(3)))
		g := open(t, d, 1)
		if asked == api.ErrFault {
			d.Fault(1)
		} else {
			d.Stop(0)
		}
		want(t, "Add", g.Add(2), asked)
		hasSegs(t, g, 1)
		walks(t, g, 2, nil, api.ErrNone)
		d.Crash(api.Keep{})
		if p := puts(t, g, bytesOf(4))[0]; p != plainPoint(1, 9, bytesOf(4)) {
			t.Errorf("Put: %v", p)
		}
		want(t, "Add", g.Add(2), api.OK)
		hasSegs(t, g, 1, 2)
	}
}

// Vl3, Vl4: a segment whose file is there already: what stands there is its, and
// what is no value is not: what is put behind it must be got when it is opened again.
func TestAddOfWhatIsThere(t *testing.T) {
	right := plainBytes(bytesOf(3), nil)
	points, _ := plainPoints(2, right)
	checkAdd(t, withFiles(t, right, right), []int{1}, 2)
	checkAdd(t, withFiles(t, nil, right), nil, 2)
	wrongs := wrongFrames()
	wrongs["nothing"] = nil
	wrongs["a part of a frame"] = plainBytes(bytesOf(9))[:8]
	for what, wrong := range wrongs {
		b := slices.Concat(right, wrong)
		d := withFiles(t, b, b, b)
		checkAdd(t, d, []int{1}, 2)
		g := open(t, d)
		want(t, what, g.Add(2), api.OK)
		hasFile(t, d, 1, b)
		hasFile(t, d, 3, b)
		walks(t, g, 2, points, api.OK)
		p := puts(t, g, bytesOf(4))[0]
		for range 2 {
			gets(t, g, points[0], bytesOf(3))
			gets(t, g, p, bytesOf(4))
			g = open(t, d, 2)
		}
	}
}

// Vl3, R2: one that is none, though its file is there: ahead of all else, and nothing is done.
func TestDropOfNone(t *testing.T) {
	b := plainBytes(bytesOf(3))
	d := withFiles(t, b, b, b, b)
	before := shape(d)
	for _, segs := range [][]int{nil, {2}, {2, 4}} {
		g := open(t, d, segs...)
		for range 2 {
			for _, seg := range []int{0, -1, 1, 3, 5, mostCount, mostCount + 1, math.MinInt, math.MaxInt} {
				want(t, "Drop of none", g.Drop(seg), api.ErrNone)
			}
			hasSegs(t, g, segs...)
			d.Stop(0)
		}
		d.Crash(api.Keep{})
	}
	if shape(d) != before {
		t.Error("something was done")
	}
}

// Vl3, R2: the last one, with a file and without, also of a dead disk.
func TestDropOfTheLast(t *testing.T) {
	b := plainBytes(bytesOf(3))
	d := withFiles(t, b, b)
	before := shape(d)
	for _, segs := range [][]int{{1}, {2}, {1, 2}, {3}, {1, 3}} {
		last := segs[len(segs)-1]
		checkDrop(t, d, segs, last)
		g := open(t, d, segs...)
		want(t, "Drop of the last", g.Drop(last), api.ErrArg)
		d.Stop(0)
		want(t, "Drop of the last", g.Drop(last), api.ErrArg)
		hasSegs(t, g, segs...)
		d.Crash(api.Keep{})
	}
	if shape(d) != before {
		t.Error("something was done")
	}
}

// gone asks that nothing is told of a segment.
func gone(t *testing.T, g *Log, d *disk.Disk, seg int, points []api.Point) {
	t.Helper()
	for _, p := range append(points, api.Point{Seg: seg}) {
		getsNot(t, g, p, api.ErrNone)
	}
	walks(t, g, seg, nil, api.ErrNone)
	if n := g.Size(seg); n != 0 {
		t.Errorf("Size(%d) = %d", seg, n)
	}
	if _, there := d.Size(plainName(seg)); there {
		t.Errorf("the file of %d is there", seg)
	}
	want(t, "Drop of what is gone", g.Drop(seg), api.ErrNone)
}

// Vl3: one with a file, wherever it stands: it is gone, and all others are as they were.
func TestDrop(t *testing.T) {
	l := [][]byte{nil, bytesOf(1), bytesOf(2), bytesOf(3), bytesOf(4)}
	for _, order := range [][]int{{1}, {2}, {3}, {1, 2, 3}, {3, 2, 1}, {2, 3, 1}} {
		d := newDisk(t, 1000)
		g := open(t, d, 1)
		told := [][]api.Point{nil}
		for seg := 1; seg <= 4; seg++ {
			if seg > 1 {
				want(t, "Add", g.Add(seg), api.OK)
			}
			told = append(told, puts(t, g, l[seg], nil))
		}
		left := segsUpTo(4)
		for _, seg := range order {
			checkDrop(t, d, left, seg)
			if n := acts(t, d, func(c *disk.Disk) { open(t, c, left...).Drop(seg) }); n != 1 {
				t.Errorf("%d acts", n)
			}
			want(t, "Drop", g.Drop(seg), api.OK)
			left = slices.DeleteFunc(left, func(x int) bool { return x == seg })
			hasSegs(t, g, left...)
			gone(t, g, d, seg, told[seg])
			for _, other := range left {
				walks(t, g, other, told[other], api.OK)
				gets(t, g, told[other][0], l[other])
			}
		}
		// Values are put to the last one still, and behind it one may be added.
		if p := puts(t, g, bytesOf(9))[0]; p.Seg != 4 {
			t.Errorf("Put: %v", p)
		}
		want(t, "Add of what is gone", g.Add(order[0]), api.ErrArg)
		want(t, "Add", g.Add(5), api.OK)
		hasSegs(t, g, append(left, 5)...)
	}
}

// Vl3: one without a file: nothing is done, and it is gone.
func TestDropOfNoFile(t *testing.T) {
	d := newDisk(t, 100)
	want(t, "Append", d.Append(plainName(2), plainBytes(bytesOf(3))), api.OK)
	if n := acts(t, d, func(c *disk.Disk) { want(t, "Drop", open(t, c, 1, 2).Drop(1), api.OK) }); n != 0 {
		t.Errorf("%d acts", n)
	}
	checkDrop(t, d, []int{1, 2}, 1)
	g := open(t, d, 1, 2)
	d.Stop(0)
	want(t, "Drop", g.Drop(1), api.OK)
	gone(t, g, d, 1, nil)
	hasSegs(t, g, 2)
}

// Vl3: a Remove that is not done, and one ahead of which the disk dies: the segment is there still.
func TestDropWithTrouble(t *testing.T) {
	for _, asked := range []api.Errno{api.ErrFault, api.ErrDead} {
		d := withFiles(t, plainBytes(bytesOf(3)), plainBytes(bytesOf(4)))
		g := open(t, d, 1, 2)
		if asked == api.ErrFault {
			d.Fault(1)
		} else {
			d.Stop(0)
		}
		want(t, "Drop", g.Drop(1), asked)
		hasSegs(t, g, 1, 2)
		if g.Size(1) != 9 {
			t.Errorf("Size(1) = %d", g.Size(1))
		}
		d.Crash(api.Keep{})
		p := plainPoint(1, 0, bytesOf(3))
		gets(t, g, p, bytesOf(3))
		walks(t, g, 1, []api.Point{p}, api.OK)
		want(t, "Drop", g.Drop(1), api.OK)
		gone(t, g, d, 1, []api.Point{p})
		gets(t, g, plainPoint(2, 0, bytesOf(4)), bytesOf(4))
	}
}
