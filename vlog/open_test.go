package vlog

import (
	"fmt"
	"math"
	"slices"
	"testing"

	"garner/api"
	"garner/disk"
)

// refuses asks that there is no log, but an error.
func refuses(t *testing.T, what string, d *disk.Disk, segs []int, asked api.Errno) {
	t.Helper()
	if g, e := Open(d, segs); g != nil || e != asked {
		t.Fatalf("Open of %s with %v: %v, %d, want %d", what, segs, g, e, asked)
	}
}

// checkOpen opens a disk as it is, and with trouble at each act, and asks for
// what the words say: the answers, and all acts.
func checkOpen(t *testing.T, d *disk.Disk, segs ...int) {
	t.Helper()
	for n := -1; n < 4; n++ {
		for _, stop := range []bool{true, false} {
			c, q := d.Clone(), d.Clone()
			trip(c, n, stop)
			trip(q, n, stop)
			what := fmt.Sprintf("Open(%v) with trouble (%v) at act %d", segs, stop, n)
			g, e := Open(c, segs)
			p, asked := plainOpen(q, segs)
			if e != asked || (g == nil) != (e != api.OK) {
				t.Fatalf("%s: %v, %d, want %d", what, g, e, asked)
			}
			if e == api.OK {
				same(t, what, g, p)
			}
			if shape(c) != shape(q) {
				t.Fatalf("%s: the disk has\n%swant\n%s", what, surface(c), surface(q))
			}
		}
	}
}

// wrongSegs are such as no log has: of wrong numbers, too many, not rising.
func wrongSegs() [][]int {
	return [][]int{
		{0}, {-1}, {-mostCount}, {math.MinInt}, {mostCount + 1}, {1 << 32}, {1<<32 + 1}, {math.MaxInt},
		{0, 1}, {-1, 1}, {1, mostCount + 1}, {1, mostCount, mostCount + 1}, {mostCount, mostCount},
		{1, 1}, {2, 1}, {1, 2, 2}, {1, 3, 2}, {2, 1, 3}, {3, 3, 4}, {1, 2, 3, 0}, {1, 2, 3, -4},
		segsUpTo(65), segsUpTo(1000),
	}
}

// Vl1: no disk, ahead of all else; one that New did not give, and dead ones, with files and without.
func TestOpenOfNoDisk(t *testing.T) {
	for _, segs := range append(wrongSegs(), nil, []int{1}, []int{1, 2}) {
		refuses(t, "no disk", nil, segs, api.ErrArg)
	}
	for _, segs := range [][]int{nil, {1}, {1, 2}} {
		refuses(t, "nobody's disk", &disk.Disk{}, segs, api.ErrDead)
		for _, d := range []*disk.Disk{newDisk(t, 0), withFiles(t, plainBytes(bytesOf(3)), []byte{9})} {
			d.Stop(0)
			before := surface(d)
			refuses(t, "a dead disk", d, segs, api.ErrDead)
			if surface(d) != before {
				t.Fatal("Open turned a dead disk")
			}
			// It opens once its power is back.
			d.Crash(api.Keep{})
			open(t, d, segs...)
		}
	}
	for _, segs := range wrongSegs() {
		d := newDisk(t, 9)
		d.Stop(0)
		refuses(t, "a dead disk", d, segs, api.ErrArg)
		refuses(t, "nobody's disk", &disk.Disk{}, segs, api.ErrArg)
	}
}

// Vl1: segments that may not be: nothing is done.
func TestOpenOfWrongSegs(t *testing.T) {
	d := withFiles(t, []byte{1}, []byte{1}, []byte{1}, []byte{1})
	before := shape(d)
	for _, segs := range wrongSegs() {
		refuses(t, "a disk", d, segs, api.ErrArg)
	}
	if shape(d) != before {
		t.Error("something was done")
	}
}

// Vl1, R5: segments that may be, none, few and most, at their edges; Segs and Size.
func TestOpenOfSegs(t *testing.T) {
	d := newDisk(t, 0)
	most := segsUpTo(mostSegs - 1)
	for _, segs := range [][]int{nil, {}, {1}, {2}, {mostCount}, {1, 2}, {1, mostCount}, {mostCount - 1, mostCount}, {5, 90, 700}, segsUpTo(63), segsUpTo(64), append(most, mostCount)} {
		g := open(t, d, segs...)
		hasSegs(t, g, segs...)
		for _, seg := range append([]int{0, -1, math.MinInt, math.MaxInt, mostCount + 1, 3}, segs...) {
			if n := g.Size(seg); n != 0 {
				t.Errorf("Size(%d) of no file: %d", seg, n)
			}
		}
		checkOpen(t, d, segs...)
	}
}

// Vl1: Size of each segment, of one that is none, though it has a file, and of one without a file.
func TestSize(t *testing.T) {
	d := withFiles(t, plainBytes(bytesOf(3)), nil, plainBytes(bytesOf(200), nil), plainBytes(nil), plainBytes(bytesOf(1)))
	want(t, "Append", d.Append("w0000000001", bytesOf(50)), api.OK)
	g := open(t, d, 1, 2, 3, 5, 7)
	for seg, n := range []int{0, 9, 0, 213, 0, 7, 0, 0, 0} {
		if got := g.Size(seg); got != n {
			t.Errorf("Size(%d) = %d, want %d", seg, got, n)
		}
	}
	// So of a dead disk, and behind what another log put.
	puts(t, open(t, d, 3), bytesOf(10))
	d.Stop(0)
	if n := g.Size(3); n != 229 {
		t.Errorf("Size(3) = %d", n)
	}
}

// checkMend asks that of the last one's file that many bytes are left, the rest
// being cut off, and that no other file is turned.
func checkMend(t *testing.T, what string, b []byte, right int) {
	t.Helper()
	d := withFiles(t, b, b, b, b)
	for _, segs := range [][]int{{3}, {1, 3}, {1, 2, 3}, {2, 3}} {
		c := d.Clone()
		g := open(t, c, segs...)
		hasFile(t, c, 3, b[:right])
		for _, other := range []int{1, 2, 4} {
			hasFile(t, c, other, b)
		}
		l, _ := plainPoints(3, b)
		walks(t, g, 3, l, api.OK)
		if g.Size(3) != right {
			t.Fatalf("%s: Size %d, want %d", what, g.Size(3), right)
		}
		// What is cut off is so safely, and what is left stays.
		c.Crash(api.Keep{})
		hasFile(t, c, 3, b[:right])
		asked := 1
		if right == len(b) {
			asked = 0
		}
		if n := acts(t, d, func(c *disk.Disk) { Open(c, segs) }); n != asked {
			t.Fatalf("%s: %d acts, want %d", what, n, asked)
		}
	}
	checkOpen(t, d, 1, 3)
}

// Vl1: a last one without a file, or with one that has no bytes: nothing is done.
func TestOpenOfNoBytes(t *testing.T) {
	d := withFiles(t, []byte{1, 2}, nil, []byte{1, 2})
	if n := acts(t, d, func(c *disk.Disk) { Open(c, []int{1, 2}) }); n != 0 {
		t.Errorf("%d acts", n)
	}
	checkOpen(t, d, 1, 2)
	open(t, d, 1, 2)
	if _, there := d.Size(plainName(2)); there {
		t.Error("Open made a file")
	}
	hasFile(t, d, 1, []byte{1, 2})
	hasFile(t, d, 3, []byte{1, 2})
	checkMend(t, "no bytes", []byte{}, 0)
}

// rightValues are values of lengths at which something turns.
func rightValues() [][]byte { return [][]byte{bytesOf(3), nil, bytesOf(130), bytesOf(1)} }

// Vl1: a last one that has just what Put gave, and one that is cut short at any byte.
func TestOpenOfBeginnings(t *testing.T) {
	l := rightValues()
	whole := plainBytes(l...)
	ends := []int{0}
	for i := range l {
		ends = append(ends, len(plainBytes(l[:i+1]...)))
	}
	for n := range len(whole) + 1 {
		right := 0
		for _, end := range ends {
			if end <= n {
				right = end
			}
		}
		checkMend(t, fmt.Sprint("a beginning of ", n), whole[:n:n], right)
	}
}

// Vl1: a frame of another Kind, with a wrong sum, or too long, at the beginning, in the middle and at the end.
func TestOpenOfWrongFrames(t *testing.T) {
	l := rightValues()
	for what, wrong := range wrongFrames() {
		for i := range len(l) + 1 {
			ahead, behind := plainBytes(l[:i]...), plainBytes(l[i:]...)
			checkMend(t, what, slices.Concat(ahead, wrong, behind), len(ahead))
			checkMend(t, what, slices.Concat(ahead, wrong), len(ahead))
		}
	}
}

// wrongFrames are bytes that begin with no value's frame.
func wrongFrames() map[string][]byte {
	l := map[string][]byte{
		"a Body too long": plainFrame(ofValues, bytesOf(mostValue+1)),
		"noughts":         make([]byte, 9),
		"no number":       {255, 255, 255, 255, 255, 255},
		"Kind 250":        plainFrame(250, bytesOf(3)),
		"no Kind":         plainFrame(0, bytesOf(3)),
	}
	for _, kind := range []int{1, 3, 4} {
		l[fmt.Sprint("Kind ", kind)] = plainFrame(kind, bytesOf(20))
	}
	frame := plainBytes(bytesOf(20))
	for _, at := range []int{1, 2, 21, 22, 25} {
		wrong := slices.Clone(frame)
		wrong[at] ^= 64
		l[fmt.Sprint("another byte at ", at)] = wrong
	}
	return l
}

// Vl1: a Cut that is not done, and one ahead of which, or behind which, the disk dies.
func TestOpenWithTrouble(t *testing.T) {
	b := append(plainBytes(bytesOf(3)), 9, 9)
	d := withFiles(t, b, b)
	for n := 1; n <= 3; n++ {
		c := d.Clone()
		c.Fault(n)
		if n == 1 {
			refuses(t, "a disk that refuses the Cut", c, []int{1, 2}, api.ErrFault)
			hasFile(t, c, 2, b)
		}
		hasSegs(t, open(t, c, 1, 2), 1, 2)
		hasFile(t, c, 1, b)
		hasFile(t, c, 2, b[:9])

		c = d.Clone()
		c.Stop(n)
		hasSegs(t, open(t, c, 1, 2), 1, 2)
		if c.Dead() != (n == 1) {
			t.Errorf("Stop(%d): dead %v", n, c.Dead())
		}
		c.Crash(api.Keep{})
		hasFile(t, c, 2, b[:9])
	}
	d.Stop(0)
	refuses(t, "a disk that dies", d, []int{1, 2}, api.ErrDead)
	d.Crash(api.Keep{})
	hasFile(t, d, 2, b)
}
