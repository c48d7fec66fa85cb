package vlog

import (
	"fmt"
	"slices"
	"testing"

	"garner/api"
	"garner/disk"
)

// putsNot asks Put for an error, and that nothing is put.
func putsNot(t *testing.T, what string, g *Log, d *disk.Disk, value []byte, asked api.Errno) {
	t.Helper()
	segs, before := g.Segs(), d.Clone()
	p, e := g.Put(value)
	if e != asked || p != (api.Point{}) {
		t.Fatalf("Put of %s: %v, %d, want %d", what, p, e, asked)
	}
	hasSegs(t, g, segs...)
	// What is put is asked of the disk as it was, too, but for its trouble.
	d.Fault(0)
	d.Stop(-1)
	before.Fault(0)
	before.Stop(-1)
	if d.Dead() {
		d.Crash(api.Keep{Names: 99, Tails: []int{9999, 9999}})
		before.Crash(api.Keep{Names: 99, Tails: []int{9999, 9999}})
	}
	if shape(d) != shape(before) {
		t.Fatalf("Put of %s: the disk has\n%swant\n%s", what, surface(d), surface(before))
	}
}

// The chapter's example: a value in segment 1.
func TestPutExample(t *testing.T) {
	d := newDisk(t, 100)
	g := open(t, d, 1)
	p, e := g.Put([]byte{7, 8, 9})
	if e != api.OK || p != (api.Point{Seg: 1, At: 2, Len: 3, Sum: 0xf132df67}) {
		t.Errorf("Put: %v, %d", p, e)
	}
	hasFile(t, d, 1, []byte("\x03\x02\x07\x08\x09\x5b\x14\x56\x66"))
	gets(t, g, p, []byte{7, 8, 9})
}

// Vl2: values of no bytes, few, and most: the point that is told, Size, Walk, and the file.
func TestPut(t *testing.T) {
	for _, ahead := range [][]byte{nil, {}, plainBytes(bytesOf(9), nil)} {
		d := withFiles(t, []byte{1, 2, 3}, ahead, []byte{4, 5})
		g := open(t, d, 1, 2)
		b := slices.Clone(ahead)
		l, _ := plainPoints(2, ahead)
		for _, n := range []int{0, 1, 3, 0, 126, 127, 128, 129, 300, 4095, 4096, 2} {
			value := bytesOf(n)
			p, e := g.Put(value)
			asked := plainPoint(2, len(b), value)
			if e != api.OK || p != asked {
				t.Fatalf("Put of %d bytes behind %d: %v, %d, want %v", n, len(b), p, e, asked)
			}
			b = append(b, plainBytes(value)...)
			l = append(l, p)
			hasFile(t, d, 2, b)
			walks(t, g, 2, l, api.OK)
			gets(t, g, p, value)
			if g.Size(2) != len(b) {
				t.Fatalf("Size(2) = %d, want %d", g.Size(2), len(b))
			}
		}
		// To no other file anything is put.
		hasFile(t, d, 1, []byte{1, 2, 3})
		hasFile(t, d, 3, []byte{4, 5})
	}
}

// Vl2: a put is one act: nothing is synced by it.
func TestPutIsOneAct(t *testing.T) {
	d := withFiles(t, plainBytes(bytesOf(9)))
	for range 2 {
		if n := acts(t, d, func(c *disk.Disk) { open(t, c, 1).Put(bytesOf(3)) }); n != 1 {
			t.Errorf("%d acts", n)
		}
		puts(t, open(t, d, 1), bytesOf(5))
	}
	d.Crash(api.Keep{})
	hasFile(t, d, 1, plainBytes(bytesOf(9)))
}

// Vl2, R2: with no segment, ahead of all else.
func TestPutWithoutSegments(t *testing.T) {
	d := newDisk(t, 100)
	g := open(t, d)
	for range 2 {
		putsNot(t, "a value", g, d, bytesOf(3), api.ErrState)
		putsNot(t, "no bytes", g, d, nil, api.ErrState)
		putsNot(t, "a value too long", g, d, bytesOf(mostValue+1), api.ErrState)
		putsNot(t, "a value without room", g, d, bytesOf(200), api.ErrState)
		d.Stop(0)
	}
	if len(d.Names()) > 0 {
		t.Errorf("there are %q", d.Names())
	}
}

// Vl2, R2: a value that is too long, ahead of what the disk refuses.
func TestPutOfTooLong(t *testing.T) {
	for _, quota := range []int{0, 50, mostDisk} {
		d := newDisk(t, quota)
		g := open(t, d, 1)
		for _, n := range []int{mostValue + 1, mostValue + 2, 1 << 20, 1<<20 + 1, mostDisk + 1} {
			putsNot(t, "a value too long", g, d, make([]byte, n), api.ErrBig)
			d.Stop(0)
			putsNot(t, "a value too long", g, d, make([]byte, n), api.ErrBig)
			d.Fault(1)
			putsNot(t, "a value too long", g, d, make([]byte, n), api.ErrBig)
		}
		if len(d.Names()) > 0 {
			t.Errorf("there are %q", d.Names())
		}
	}
}

// Vl2: a disk without room for a value, and with just so much.
func TestPutWithoutRoom(t *testing.T) {
	for _, n := range []int{0, 1, 127, 128, 4096} {
		size := len(plainBytes(bytesOf(n)))
		for _, room := range []int{0, 5, size - 1, size, size + 1} {
			for _, ahead := range [][]byte{nil, plainBytes(bytesOf(9))} {
				d := newDisk(t, len(ahead)+room)
				if ahead != nil {
					want(t, "Append", d.Append(plainName(1), ahead), api.OK)
				}
				g := open(t, d, 1)
				if room >= size {
					gets(t, g, puts(t, g, bytesOf(n))[0], bytesOf(n))
					continue
				}
				putsNot(t, "a value without room", g, d, bytesOf(n), api.ErrFull)
				l, _ := plainPoints(1, ahead)
				walks(t, g, 1, l, api.OK)
				if g.Size(1) != len(ahead) {
					t.Fatalf("Size(1) = %d, want %d", g.Size(1), len(ahead))
				}
				// Where there is room for less, that is put still.
				if room == 127 {
					puts(t, g, bytesOf(121))
				}
			}
		}
	}
}

// Vl2: no room for one more file.
func TestPutWithoutAFile(t *testing.T) {
	d := newDisk(t, 1000)
	g := open(t, d, 1)
	for n := range api.MaxFiles {
		want(t, "Append", d.Append(fmt.Sprint("x", n), nil), api.OK)
	}
	if p, e := g.Put(bytesOf(3)); e != api.ErrFull || p != (api.Point{}) {
		t.Fatalf("Put: %v, %d", p, e)
	}
	want(t, "Remove", d.Remove("x7"), api.OK)
	gets(t, g, puts(t, g, bytesOf(3))[0], bytesOf(3))
}

// Vl2: a put that is not done, and one ahead of which, or behind which, the disk dies.
func TestPutWithTrouble(t *testing.T) {
	for _, ahead := range [][]byte{nil, {}, plainBytes(bytesOf(9), bytesOf(2))} {
		for _, asked := range []api.Errno{api.ErrFault, api.ErrDead} {
			d := withFiles(t, ahead)
			g := open(t, d, 1)
			if asked == api.ErrFault {
				d.Fault(1)
			} else {
				d.Stop(0)
			}
			putsNot(t, "a value", g, d, bytesOf(3), asked)
			l, _ := plainPoints(1, ahead)
			walks(t, g, 1, l, api.OK)
			if g.Size(1) != len(ahead) {
				t.Fatalf("Size(1) = %d, want %d", g.Size(1), len(ahead))
			}
			// Once the trouble is over it is put as before.
			p := puts(t, g, bytesOf(3))[0]
			if p != plainPoint(1, len(ahead), bytesOf(3)) {
				t.Fatalf("Put: %v", p)
			}
			gets(t, g, p, bytesOf(3))
		}
		d := withFiles(t, ahead)
		g := open(t, d, 1)
		d.Stop(1)
		puts(t, g, bytesOf(3))
		if !d.Dead() || g.Size(1) != len(ahead)+9 {
			t.Errorf("dead %v, %d bytes", d.Dead(), g.Size(1))
		}
	}
}

// checkSync asks Sync, with trouble at each act and without, for what the words say.
func checkSync(t *testing.T, d *disk.Disk, segs ...int) {
	t.Helper()
	checkTurn(t, d, segs, (*Log).Sync, (*plain).sync)
}

// Vl2: Sync with no segment, and of a last one without a file: nothing is done.
func TestSyncOfNothing(t *testing.T) {
	d := newDisk(t, 1000)
	want(t, "Append", d.Append(plainName(1), plainBytes(bytesOf(3))), api.OK)
	for _, segs := range [][]int{nil, {2}, {1, 2}} {
		if n := acts(t, d, func(c *disk.Disk) { want(t, "Sync", open(t, c, segs...).Sync(), api.OK) }); n != 0 {
			t.Errorf("%d acts", n)
		}
		checkSync(t, d, segs...)
	}
}

// Vl2: Sync of a last one with a file: what was put is safe, of no other one, and names are not.
func TestSync(t *testing.T) {
	d := withFiles(t, []byte{}, []byte{}, []byte{})
	for seg, value := range [][]byte{nil, bytesOf(3), bytesOf(4), bytesOf(5)} {
		if value != nil {
			want(t, "Append", d.Append(plainName(seg), plainBytes(value)), api.OK)
		}
	}
	checkSync(t, d, 1, 2)
	g := open(t, d, 1, 2)
	want(t, "Sync", g.Sync(), api.OK)
	d.Crash(api.Keep{})
	hasFile(t, d, 1, nil)
	hasFile(t, d, 2, plainBytes(bytesOf(4)))
	hasFile(t, d, 3, nil)

	d = newDisk(t, 1000)
	g = open(t, d, 1)
	puts(t, g, bytesOf(3))
	checkSync(t, d, 1)
	want(t, "Sync", g.Sync(), api.OK)
	d.Crash(api.Keep{})
	if l := d.Names(); len(l) > 0 {
		t.Errorf("there are %q", l)
	}
}

// Vl2: a Sync that is not done, and one ahead of which the disk dies: nothing is safe by it.
func TestSyncWithTrouble(t *testing.T) {
	for _, asked := range []api.Errno{api.ErrFault, api.ErrDead} {
		d := withFiles(t, plainBytes(bytesOf(9)))
		g := open(t, d, 1)
		puts(t, g, bytesOf(3))
		if asked == api.ErrFault {
			d.Fault(1)
		} else {
			d.Stop(0)
		}
		want(t, "Sync", g.Sync(), asked)
		hasSegs(t, g, 1)
		d.Crash(api.Keep{})
		hasFile(t, d, 1, plainBytes(bytesOf(9)))
	}
}
