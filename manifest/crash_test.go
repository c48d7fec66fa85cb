package manifest

import (
	"fmt"
	"math/rand"
	"slices"
	"testing"

	"garner/api"
	"garner/disk"
	"garner/roster"
)

// among asks that a roster is one of those that there may be.
func among(t testing.TB, what string, r api.Roster, l []api.Roster) {
	t.Helper()
	if !slices.ContainsFunc(l, func(x api.Roster) bool { return roster.Same(x, r) }) {
		t.Fatalf("%s: the roster is %v, want one of %v", what, r, l)
	}
}

// played does turns up to the first one that is refused, and tells which
// rosters there may be then: that of all that answered OK, and that of the one
// that was broken.
func played(m *Manifest, turns [][]api.Edit) []api.Roster {
	r := m.Roster()
	for _, l := range turns {
		next, _ := roster.Apply(r, l...)
		if e := m.Turn(l...); e != api.OK {
			if m.Broken() {
				return []api.Roster{r, next}
			}
			return []api.Roster{r}
		}
		r = next
	}
	return []api.Roster{r}
}

// crashes are what there may be behind a crash of a disk, each once.
func crashes(d *disk.Disk, tails []int) []*disk.Disk {
	seen := map[string]bool{}
	var l []*disk.Disk
	for names := range 4 {
		for _, n := range tails {
			c := d.Clone()
			c.Crash(api.Keep{Names: names, Tails: []int{n, n}})
			if s := surface(c); !seen[s] {
				seen[s] = true
				l = append(l, c)
			}
		}
	}
	return l
}

// explore opens, turns and crashes a disk at each act, as often as depth says:
// the roster is always one of those that there may be.
func explore(t *testing.T, what string, d *disk.Disk, may []api.Roster, turns [][]api.Edit, depth int) {
	t.Helper()
	c := d.Clone()
	m := open(t, c)
	among(t, what, m.Roster(), may)
	c.Crash(api.Keep{})
	if again := open(t, c).Roster(); !roster.Same(again, m.Roster()) {
		t.Fatalf("%s: opened again it is %v, not %v", what, again, m.Roster())
	}
	if depth == 0 {
		return
	}
	tails := []int{0, 1, 8, 14, 9999}
	for n := range 5 {
		for _, stop := range []bool{true, false} {
			c := d.Clone()
			trip(c, n, stop)
			left := may
			if m, e := Open(c); e == api.OK {
				left = []api.Roster{m.Roster()}
			}
			for _, x := range crashes(c, tails) {
				explore(t, what+fmt.Sprint(", opened up to act ", n), x, left, turns, 0)
			}
		}
	}
	for n := range 9 {
		for _, stop := range []bool{true, false} {
			c := d.Clone()
			m := open(t, c)
			trip(c, n, stop)
			left := played(m, turns)
			for _, x := range crashes(c, tails) {
				explore(t, what+fmt.Sprint(", turned up to act ", n), x, left, turns[1:], depth-1)
			}
			// Opened without a crash, too.
			if !c.Dead() {
				c.Fault(0)
				c.Stop(-1)
				among(t, what, open(t, c).Roster(), left)
			}
		}
	}
}

// trip lets a disk die behind n acts, or not do the one behind n.
func trip(d *disk.Disk, n int, stop bool) {
	if stop {
		d.Stop(n)
	} else {
		d.Fault(n + 1)
	}
}

// Ma3: behind a crash at any act, of turns that append and of such that renew;
// opened, turned and crashed again likewise.
func TestCrashAtEachAct(t *testing.T) {
	turns := [][]api.Edit{{mark(7000), seg(500)}, {move(500, 0), mark(7001)}, {mark(7002)}}
	for _, x := range kinds(t) {
		r := open(t, x.d.Clone()).Roster()
		use, depth := turns, 2
		if len(r.Segs) > 60 {
			depth = 1
			use = [][]api.Edit{{mark(7000), unmove(64)}, {tab(99, 0, "q", "r"), untab(1)}}
		}
		explore(t, x.what, x.d, []api.Roster{r}, use, depth)
	}
}

// Ma3: behind a crash within the bytes of a frame, and of a file anew, at any byte.
func TestCrashAtEachByte(t *testing.T) {
	for _, x := range kinds(t) {
		turn := []api.Edit{mark(7000), base(9, 30, 2, api.Hard{Commit: 70})}
		for n := 1; n <= x.acts; n++ {
			d := x.d.Clone()
			m := open(t, d)
			d.Stop(n)
			may := played(m, [][]api.Edit{turn})
			size, _ := d.Size(fresh)
			for tail := 0; tail <= max(size, 40); tail += 1 + tail/25 {
				for names := range 3 {
					c := d.Clone()
					c.Crash(api.Keep{Names: names, Tails: []int{tail, tail}})
					among(t, x.what, open(t, c).Roster(), may)
				}
			}
		}
	}
}

// Ma3: what a crash left of the first turn: the file, without its name, or a
// part of it; the name, without bytes.
func TestCrashOfTheFirstTurn(t *testing.T) {
	whole := plainBytes([]api.Edit{seg(1)})
	for n := range 4 {
		d := newDisk(t, 1000)
		m := open(t, d)
		d.Stop(n)
		m.Turn(seg(1))
		for names := range 2 {
			for tail := range len(whole) + 1 {
				c := d.Clone()
				c.Crash(api.Keep{Names: names, Tails: []int{tail}})
				named := n == 3 || n > 0 && names > 0
				full := named && (n > 1 || tail == len(whole))
				x := open(t, c)
				if full {
					holds(t, "there", x, done(t, seg(1)), 1, false)
				} else {
					holds(t, "not there", x, roster.First(), 0, false)
				}
				if _, there := c.Size(usual); there != named {
					t.Fatalf("%d acts, %d names: there %v", n, names, there)
				}
			}
		}
	}
}

// game is a manifest, and what it must be, each on a disk of its own.
type game struct {
	d, q *disk.Disk
	m    *Manifest
	p    *plain
	// may is what rosters there may be when it is opened.
	may []api.Roster
}

// reopen opens both.
func (g *game) reopen(t *testing.T) {
	t.Helper()
	m, e := Open(g.d)
	p, asked := plainOpen(g.q)
	want(t, "Open", e, asked)
	g.m, g.p = m, p
	if e == api.OK {
		among(t, "opened", m.Roster(), g.may)
		g.may = []api.Roster{m.Roster()}
	}
}

// turn turns both.
func (g *game) turn(t *testing.T, l []api.Edit) {
	t.Helper()
	if g.m == nil {
		return
	}
	ahead, was := g.m.Roster(), g.m.Broken()
	e := g.m.Turn(l...)
	want(t, "Turn", e, g.p.turn(l))
	if e == api.OK || g.m.Broken() && !was {
		next, _ := roster.Apply(ahead, l...)
		if e != api.OK {
			g.may = []api.Roster{ahead, next}
		} else {
			g.may = []api.Roster{next}
		}
	}
}

// same asks for all that both tell.
func (g *game) same(t *testing.T) {
	t.Helper()
	if g.m != nil {
		holds(t, "played", g.m, g.p.r, g.p.frames, g.p.broken)
	}
	if surface(g.d) != surface(g.q) {
		t.Fatalf("the disk has\n%swant\n%s", surface(g.d), surface(g.q))
	}
}

func (g *game) step(t *testing.T, r *rand.Rand) {
	t.Helper()
	switch n := r.Intn(60); {
	case n < 46:
		x := api.Roster{Log: 1}
		if g.m != nil {
			x = g.m.Roster()
		}
		l := someTurn(r, x, 1+r.Intn(40)>>r.Intn(6))
		if r.Intn(20) == 0 {
			l = append(l, someEdit(r, x))
		}
		g.turn(t, l)
	case n < 50:
		k := 1 + r.Intn(5)
		g.d.Fault(k)
		g.q.Fault(k)
	case n < 53:
		k := r.Intn(6)
		g.d.Stop(k)
		g.q.Stop(k)
	case n < 56:
		g.reopen(t)
	default:
		k := api.Keep{Names: r.Intn(4), Tails: []int{r.Intn(3000) >> r.Intn(12), r.Intn(300)}}
		g.d.Crash(k)
		g.q.Crash(k)
		if r.Intn(2) == 0 {
			k := 1 + r.Intn(5)
			g.d.Stop(k)
			g.q.Stop(k)
		}
		g.reopen(t)
	}
}

// Ma1 to Ma3, P5, R2, R4: as the chapter's words do it plainly, with turns,
// faults, deaths and crashes in any order, on disks with much room and little.
func TestAsPlain(t *testing.T) {
	r := newSource()
	renewed, great, broken, bare := 0, 0, 0, 0
	for range 200 {
		quota := 1 << 20 >> (r.Intn(2) * (8 + r.Intn(5)))
		g := &game{d: newDisk(t, quota), q: newDisk(t, quota), may: []api.Roster{roster.First()}}
		g.reopen(t)
		for range 150 {
			ahead := 0
			if g.m != nil {
				ahead = g.m.Frames()
			}
			g.step(t, r)
			g.same(t)
			if g.m == nil {
				bare++
				continue
			}
			if g.m.Broken() {
				broken++
			}
			if ahead == 32 && g.m.Frames() < 5 {
				renewed++
			}
			if len(roster.Edits(g.m.Roster())) > 100 {
				great++
			}
		}
		if shape(g.d) != shape(g.q) {
			t.Fatal("the disks differ behind crashes")
		}
	}
	if renewed < 50 || great < 500 || broken < 500 || bare < 200 {
		t.Errorf("only %d renewed, %d great, %d broken, %d without a manifest", renewed, great, broken, bare)
	}
}

// R4: the same calls, the same answers.
func TestSameAgain(t *testing.T) {
	run := func() []string {
		r := newSource()
		d := newDisk(t, 1<<16)
		m := open(t, d)
		var l []string
		for range 200 {
			m.Turn(someTurn(r, m.Roster(), 5)...)
			l = append(l, surface(d), fmt.Sprint(m.Roster(), m.Frames(), m.Broken()))
		}
		return l
	}
	if !slices.Equal(run(), run()) {
		t.Error("another answer to the same calls")
	}
}

func BenchmarkTurn(b *testing.B) {
	d := newDisk(b, 1<<20)
	m := open(b, d)
	m.Turn(big(40, 40, 40, true)...)
	for b.Loop() {
		m.Turn(mark(5000))
	}
}

func BenchmarkOpen(b *testing.B) {
	d := full(b, big(64, 64, 64, true))
	for b.Loop() {
		Open(d)
	}
}
