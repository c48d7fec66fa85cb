package vlog

import (
	"bytes"
	"fmt"
	"math/rand"
	"slices"
	"testing"

	"garner/api"
	"garner/disk"
)

// held is a value that was put. Of what is sure, the value must be got; of the
// rest it is got, or told not to be there.
type held struct {
	p      api.Point
	value  []byte
	synced bool
	sure   bool
}

// ledger is what was put to a log, and which files have safe names.
type ledger struct {
	l     []*held
	named map[int]bool
}

func newLedger() *ledger { return &ledger{named: map[int]bool{}} }

func (x *ledger) put(g *Log, value []byte) api.Errno {
	p, e := g.Put(value)
	if e == api.OK {
		x.l = append(x.l, &held{p: p, value: value, sure: true})
	}
	return e
}

// syncs notes that a segment's file was synced.
func (x *ledger) syncs(seg int) {
	for _, h := range x.l {
		if h.p.Seg == seg {
			h.synced = true
		}
	}
}

// names notes that all names of a disk are safe.
func (x *ledger) names(d *disk.Disk) {
	for _, h := range x.l {
		if _, there := d.Size(plainName(h.p.Seg)); there {
			x.named[h.p.Seg] = true
		}
	}
}

// crashed is a ledger behind a crash: what is sure is what was synced, of a file
// whose name is safe.
func (x *ledger) crashed() *ledger {
	c := newLedger()
	for _, h := range x.l {
		after := *h
		after.sure = h.sure && h.synced && x.named[h.p.Seg]
		after.synced = after.sure
		c.l = append(c.l, &after)
		c.named[h.p.Seg] = x.named[h.p.Seg]
	}
	return c
}

// check asks a log for all that was put to it.
func (x *ledger) check(t *testing.T, what string, g *Log) {
	t.Helper()
	there := g.Segs()
	for _, h := range x.l {
		b, e := g.Get(h.p)
		switch {
		case e == api.OK && bytes.Equal(b, h.value) && slices.Contains(there, h.p.Seg):
		case e == api.ErrNone && len(b) == 0 && !(h.sure && slices.Contains(there, h.p.Seg)):
		default:
			t.Fatalf("%s: Get(%v) = %v, %d; synced %v, sure %v, of %v", what, h.p, b, e, h.synced, h.sure, there)
		}
	}
}

// found notes what is there behind a crash: it is safe, and must be got from now on.
func (x *ledger) found(g *Log, d *disk.Disk) {
	for _, h := range x.l {
		if _, e := g.Get(h.p); e == api.OK {
			h.sure, h.synced = true, true
		}
	}
	x.named = map[int]bool{}
	x.names(d)
}

// play does some of all that a log has, up to the first call that is refused:
// what may be in which state then, and the log's segments.
func play(g *Log, d *disk.Disk) *ledger {
	x := newLedger()
	steps := []func() api.Errno{
		func() api.Errno { return x.put(g, bytesOf(3)) },
		func() api.Errno { return x.sync(g) },
		func() api.Errno { return x.syncNames(d) },
		func() api.Errno { return x.put(g, bytesOf(140)) },
		func() api.Errno { return x.put(g, nil) },
		func() api.Errno { return x.add(g, 2) },
		func() api.Errno { return x.put(g, bytesOf(4)) },
		func() api.Errno { return x.sync(g) },
		func() api.Errno { return x.put(g, bytesOf(5)) },
		func() api.Errno { return x.syncNames(d) },
		func() api.Errno { return x.add(g, 7) },
		func() api.Errno { return x.put(g, bytesOf(6)) },
		func() api.Errno { return g.Drop(1) },
		func() api.Errno { return x.put(g, bytesOf(7)) },
		func() api.Errno { return x.sync(g) },
		func() api.Errno { return x.put(g, bytesOf(8)) },
	}
	for _, do := range steps {
		if do() != api.OK {
			break
		}
	}
	return x
}

func (x *ledger) sync(g *Log) api.Errno {
	e := g.Sync()
	if l := g.Segs(); e == api.OK && len(l) > 0 {
		x.syncs(l[len(l)-1])
	}
	return e
}

func (x *ledger) syncNames(d *disk.Disk) api.Errno {
	e := d.SyncNames()
	if e == api.OK {
		x.names(d)
	}
	return e
}

// add adds a segment: all of the last one is synced by it.
func (x *ledger) add(g *Log, seg int) api.Errno {
	l := g.Segs()
	e := g.Add(seg)
	if e == api.OK && len(l) > 0 {
		x.syncs(l[len(l)-1])
	}
	return e
}

// Vl4: what is put is got as long as its segment is there, opened again too, and
// what is put later with it.
func TestPutIsGot(t *testing.T) {
	d := newDisk(t, mostDisk)
	g := open(t, d, 1)
	x := play(g, d)
	if len(x.l) != 8 {
		t.Fatalf("%d were put", len(x.l))
	}
	for range 3 {
		x.check(t, "put", g)
		g = open(t, d, g.Segs()...)
		want(t, "Put", x.put(g, bytesOf(50)), api.OK)
		x.check(t, "opened again", g)
		want(t, "Add", g.Add(g.Segs()[len(g.Segs())-1]+1), api.OK)
		want(t, "Put", x.put(g, bytesOf(51)), api.OK)
	}
	hasSegs(t, g, 2, 7, 8, 9, 10)
}

// Vl4: behind a crash at any act, with whatever stays: what was synced is got, if
// the names are safe, and what was not is got or told not to be there; so of what
// is put then.
func TestCrashAtEachAct(t *testing.T) {
	last := acts(t, newDisk(t, mostDisk), func(d *disk.Disk) {
		if g, e := Open(d, []int{1}); e == api.OK {
			play(g, d)
		}
	})
	for n := range last + 1 {
		for _, stop := range []bool{true, false} {
			d := newDisk(t, mostDisk)
			g := open(t, d, 1)
			trip(d, n, stop)
			x := play(g, d)
			for names := range 6 {
				for tail := range 30 {
					for _, other := range []int{0, 7, 9999} {
						c := d.Clone()
						c.Crash(api.Keep{Names: names, Tails: []int{tail * tail / 4, other, other}})
						what := fmt.Sprintf("up to act %d (%v), kept %d names, %d and %d bytes", n, stop, names, tail*tail/4, other)
						behindCrash(t, what, c, g.Segs(), x.crashed())
					}
				}
			}
		}
	}
}

// behindCrash opens a log behind a crash, puts to it, and opens it again.
func behindCrash(t *testing.T, what string, d *disk.Disk, segs []int, x *ledger) {
	t.Helper()
	g := open(t, d, segs...)
	x.check(t, what, g)
	x.found(g, d)
	for range 2 {
		want(t, "Put", x.put(g, bytesOf(9)), api.OK)
		x.check(t, what+", put", g)
		g = open(t, d, segs...)
		x.check(t, what+", opened again", g)
	}
	want(t, "Sync", x.sync(g), api.OK)
	want(t, "SyncNames", x.syncNames(d), api.OK)
	want(t, "Put", x.put(g, bytesOf(10)), api.OK)
	d.Crash(api.Keep{Tails: []int{4}})
	x.crashed().check(t, what+", crashed again", open(t, d, segs...))
}

// game is a log, what it must be by the words, each on a disk of its own, and
// what was put to it.
type game struct {
	d, q *disk.Disk
	g    *Log
	p    *plain
	x    *ledger
	segs []int
}

// reopen opens both with the segments that there were.
func (x *game) reopen(t *testing.T) {
	t.Helper()
	if x.g != nil {
		x.segs = x.g.Segs()
	}
	g, e := Open(x.d, x.segs)
	p, asked := plainOpen(x.q, x.segs)
	want(t, "Open", e, asked)
	x.g, x.p = g, p
}

// crash lets the power of both go, and come.
func (x *game) crash(t *testing.T, k api.Keep) {
	t.Helper()
	x.d.Crash(k)
	x.q.Crash(k)
	x.x = x.x.crashed()
	x.reopen(t)
	if x.g == nil {
		t.Fatal("there is no log behind a crash")
	}
	x.x.check(t, "crashed", x.g)
	x.x.found(x.g, x.d)
}

func (x *game) trip(n int, stop bool) {
	trip(x.d, n, stop)
	trip(x.q, n, stop)
}

func (x *game) put(t *testing.T, value []byte) {
	t.Helper()
	p, asked := x.p.put(value)
	want(t, "Put", x.x.put(x.g, value), asked)
	if n := len(x.x.l); asked == api.OK && x.x.l[n-1].p != p {
		t.Fatalf("Put: %v, want %v", x.x.l[n-1].p, p)
	}
}

func (x *game) step(t *testing.T, r *rand.Rand) {
	t.Helper()
	top := 1
	if l := x.g.Segs(); len(l) > 0 {
		top = l[len(l)-1]
	}
	switch n := r.Intn(60); {
	case n < 28:
		x.put(t, someValue(r))
	case n < 29:
		x.put(t, make([]byte, mostValue+1))
	case n < 34:
		want(t, "Sync", x.x.sync(x.g), x.p.sync())
	case n < 38:
		want(t, "SyncNames", x.x.syncNames(x.d), x.q.SyncNames())
	case n < 43:
		seg := top + r.Intn(5) - 1
		want(t, "Add", x.x.add(x.g, seg), x.p.add(seg))
	case n < 49:
		seg := top - r.Intn(6)
		want(t, "Drop", x.g.Drop(seg), x.p.drop(seg))
	case n < 53:
		x.trip(r.Intn(4), n < 51)
	case n < 55:
		// Without trouble: were it not opened, there would be no log to go on with.
		if !x.d.Dead() {
			x.trip(-1, true)
			x.trip(-1, false)
			x.reopen(t)
		}
	default:
		x.crash(t, api.Keep{Names: r.Intn(5), Tails: []int{r.Intn(6000) >> r.Intn(13), r.Intn(300), r.Intn(30)}})
	}
}

// Vl1 to Vl4, R2, R4: as the chapter's words do it plainly, with calls, faults,
// deaths and crashes in any order, on disks with much room and little.
func TestAsPlain(t *testing.T) {
	r := newSource()
	dead, full, many := 0, 0, 0
	for range 150 {
		quota := mostDisk >> (r.Intn(2) * (6 + r.Intn(6)))
		x := &game{d: newDisk(t, quota), q: newDisk(t, quota), x: newLedger(), segs: []int{1}[:r.Intn(2)]}
		x.reopen(t)
		for range 150 {
			x.step(t, r)
			if !slices.Equal(x.g.Segs(), x.p.segs) || surface(x.d) != surface(x.q) {
				t.Fatalf("%v, want %v; the disk has\n%swant\n%s", x.g.Segs(), x.p.segs, surface(x.d), surface(x.q))
			}
			if x.d.Dead() {
				dead++
				continue
			}
			x.x.check(t, "played", x.g)
			if x.d.Room() < 200 {
				full++
			}
			if len(x.g.Segs()) > 3 {
				many++
			}
		}
		same(t, "played", x.g, x.p)
		if shape(x.d) != shape(x.q) {
			t.Fatal("the disks differ behind crashes")
		}
	}
	if dead < 500 || full < 500 || many < 500 {
		t.Errorf("only %d dead, %d full, %d of many segments", dead, full, many)
	}
}
