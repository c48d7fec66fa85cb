package manifest

import (
	"fmt"
	"math/rand"
	"slices"
	"strings"
	"testing"

	"garner/api"
	"garner/disk"
	"garner/edit"
	"garner/frame"
	"garner/roster"
)

// The chapter's words done plainly, act by act, with numbers and names of their own.

const (
	usual = "roster"
	fresh = "roster.new"

	fullFile  = 32
	fullPart  = 100
	fullFrame = 200
	mostCount = 1<<31 - 1
)

func newSource() *rand.Rand { return rand.New(rand.NewSource(18)) }

type plain struct {
	d      *disk.Disk
	r      api.Roster
	frames int
	broken bool
}

func plainOpen(d *disk.Disk) (*plain, api.Errno) {
	if d == nil {
		return nil, api.ErrArg
	}
	if d.Dead() {
		return nil, api.ErrDead
	}
	p := &plain{d: d, r: api.Roster{Log: 1}}
	_, left := d.Size(fresh)
	n, there := d.Size(usual)
	right := 0
	if there {
		b, _ := d.Read(usual, 0, n)
		p.r, p.frames, right = plainRead(b)
	}
	e := api.OK
	if left {
		e = d.Remove(fresh)
	}
	if e == api.OK && right < n {
		e = d.Cut(usual, right)
	}
	if e == api.OK && there {
		e = d.Sync(usual)
	}
	if e == api.OK && (left || there) {
		e = d.SyncNames()
	}
	if e != api.OK {
		return nil, e
	}
	return p, api.OK
}

// plainRead is a roster, of how many frames, and how many bytes these have.
func plainRead(b []byte) (api.Roster, int, int) {
	r, frames, right := api.Roster{Log: 1}, 0, 0
	for {
		l, n := plainPart(b[right:])
		next, e := roster.Apply(r, l...)
		if n > 0 && e == api.OK {
			r, frames, right = next, frames+1, right+n
			continue
		}
		// The first part of a roster that was written anew may be too much alone.
		if n == 0 || frames > 0 || len(l) != fullPart {
			return r, frames, right
		}
		more, k := plainPart(b[n:])
		both := append(slices.Clone(l), more...)
		next, e = roster.Apply(r, both...)
		if k == 0 || e != api.OK || len(more) > fullPart || !slices.Equal(both, roster.Edits(next)) {
			return r, frames, right
		}
		r, frames, right = next, 2, n+k
	}
}

// plainPart is the edits that bytes begin with, and how many bytes they have: 0, if there are none.
func plainPart(b []byte) ([]api.Edit, int) {
	f, n, e := frame.First(b)
	if e != api.OK || f.Kind != 1 {
		return nil, 0
	}
	l, e := edit.Get(f.Body)
	if e != api.OK {
		return nil, 0
	}
	return l, n
}

func (p *plain) turn(l []api.Edit) api.Errno {
	if p.broken {
		return api.ErrState
	}
	r, e := roster.Apply(p.r, l...)
	if e != api.OK || len(l) == 0 {
		return e
	}
	if p.frames >= fullFile {
		return p.renew(r)
	}
	if len(l) > fullFrame {
		return api.ErrArg
	}
	_, there := p.d.Size(usual)
	if e := p.d.Append(usual, plainBytes(l)); e != api.OK {
		return e
	}
	e = p.d.Sync(usual)
	if e == api.OK && !there {
		e = p.d.SyncNames()
	}
	if e != api.OK {
		p.broken = true
		return e
	}
	p.r, p.frames = r, p.frames+1
	return api.OK
}

func (p *plain) renew(r api.Roster) api.Errno {
	parts := plainParts(r)
	if e := p.d.Append(fresh, plainBytes(parts...)); e != api.OK {
		return e
	}
	e := p.d.Sync(fresh)
	if e == api.OK {
		e = p.d.Rename(fresh, usual)
	}
	if e == api.OK {
		e = p.d.SyncNames()
	}
	if e != api.OK {
		p.broken = true
		return e
	}
	p.r, p.frames = r, len(parts)
	return api.OK
}

// plainParts is a roster's edits, a hundred at most in a row.
func plainParts(r api.Roster) [][]api.Edit {
	var parts [][]api.Edit
	for i, e := range roster.Edits(r) {
		if i%fullPart == 0 {
			parts = append(parts, nil)
		}
		parts[len(parts)-1] = append(parts[len(parts)-1], e)
	}
	return parts
}

// plainBytes is the bytes of frames of Kind 1 with edits.
func plainBytes(parts ...[]api.Edit) []byte {
	var b []byte
	for _, l := range parts {
		body, e := edit.Put(l)
		if e != api.OK {
			panic("no edits' bytes")
		}
		b = append(b, rawFrame(1, body)...)
	}
	return b
}

func rawFrame(kind int, body []byte) []byte {
	b, e := frame.Put(api.Frame{Kind: kind, Body: body})
	if e != api.OK {
		panic("no frame")
	}
	return b
}

func seg(num int) api.Edit           { return api.Edit{Kind: 1, Num: num} }
func move(index, num int) api.Edit   { return api.Edit{Kind: 2, Index: index, Num: num} }
func unmove(index int) api.Edit      { return api.Edit{Kind: 3, Index: index} }
func untab(num int) api.Edit         { return api.Edit{Kind: 5, Num: num} }
func still(n, index, t int) api.Edit { return api.Edit{Kind: 6, Num: n, Index: index, Term: t} }
func unstill(index int) api.Edit     { return api.Edit{Kind: 7, Index: index} }
func mark(index int) api.Edit        { return api.Edit{Kind: 9, Index: index} }

func base(num, index, term int, h api.Hard) api.Edit {
	return api.Edit{Kind: 8, Num: num, Index: index, Term: term, Hard: h}
}

func tab(num, level int, first, last string) api.Edit {
	return api.Edit{Kind: 4, Tab: api.Tab{Num: num, Level: level, Size: 9, First: first, Last: last}}
}

// marks are parts of one mark each, from one on up to another.
func marks(from, to int) [][]api.Edit {
	var parts [][]api.Edit
	for n := from; n <= to; n++ {
		parts = append(parts, []api.Edit{mark(n)})
	}
	return parts
}

func flat(parts ...[]api.Edit) []api.Edit { return slices.Concat(parts...) }

// big is edits, at First, of a roster with so many segments, moves and tables,
// and with the rest, or without; they are not as layer 17 tells them.
func big(segs, moves, tabs int, rest bool) []api.Edit {
	var l []api.Edit
	for n := 1; n <= segs+moves; n++ {
		l = append(l, seg(n))
		if n > 1 && n <= moves+1 {
			l = append(l, move(n-1, 1000-n))
		}
	}
	for n := range tabs {
		key := fmt.Sprintf("k%02d", n)
		l = append(l, tab(n+1, n%3, key, key+"z"))
	}
	if rest {
		l = append(l, mark(50), still(9, 10, 1), still(8, 20, 1), still(7, 30, 2), still(6, 40, 2))
		l = append(l, base(3, 30, 2, api.Hard{Term: 4, Vote: 2, Commit: 60}))
	}
	return l
}

func done(t testing.TB, l ...api.Edit) api.Roster {
	t.Helper()
	r, e := roster.Apply(roster.First(), l...)
	if e != api.OK {
		t.Fatalf("Apply(First(), %v): %d", l, e)
	}
	return r
}

func newDisk(t testing.TB, quota int) *disk.Disk {
	t.Helper()
	d, e := disk.New(quota)
	if e != api.OK {
		t.Fatalf("disk.New(%d): %d", quota, e)
	}
	return d
}

// withFile is a disk with a file, safe.
func withFile(t testing.TB, name string, b []byte) *disk.Disk {
	t.Helper()
	d := newDisk(t, 1<<20)
	put(t, d, name, b)
	return d
}

// put lets bytes stand in a file, safe.
func put(t testing.TB, d *disk.Disk, name string, b []byte) {
	t.Helper()
	want(t, "Append", d.Append(name, b), api.OK)
	want(t, "Sync", d.Sync(name), api.OK)
	want(t, "SyncNames", d.SyncNames(), api.OK)
}

func want(t testing.TB, what string, got, asked api.Errno) {
	t.Helper()
	if got != asked {
		t.Fatalf("%s: %d, want %d", what, got, asked)
	}
}

func open(t testing.TB, d *disk.Disk) *Manifest {
	t.Helper()
	m, e := Open(d)
	if e != api.OK || m == nil {
		t.Fatalf("Open: %v, %d", m, e)
	}
	return m
}

// holds asks a manifest for all that it tells.
func holds(t testing.TB, what string, m *Manifest, r api.Roster, frames int, broken bool) {
	t.Helper()
	if x := m.Roster(); !roster.Same(x, r) {
		t.Fatalf("%s: the roster is %v, want %v", what, x, r)
	}
	if m.Frames() != frames || m.Broken() != broken {
		t.Fatalf("%s: Frames %d, Broken %v, want %d, %v", what, m.Frames(), m.Broken(), frames, broken)
	}
}

// hasFile asks for all bytes of a file.
func hasFile(t testing.TB, d *disk.Disk, name string, b []byte) {
	t.Helper()
	n, there := d.Size(name)
	got, e := d.Read(name, 0, n)
	if !there || e != api.OK || !slices.Equal(got, b) {
		t.Fatalf("%q has %v (%v, %d), want %v", name, got, there, e, b)
	}
}

// surface is all that a disk tells now.
func surface(d *disk.Disk) string {
	var s strings.Builder
	for _, name := range d.Names() {
		n, _ := d.Size(name)
		b, e := d.Read(name, 0, n)
		fmt.Fprintf(&s, "%q %d %x %d\n", name, n, b, e)
	}
	fmt.Fprintf(&s, "%d %d %v\n", d.Used(), d.Room(), d.Dead())
	return s.String()
}

// keeps are what may stay of a disk behind a crash.
func keeps() []api.Keep {
	var l []api.Keep
	for _, names := range []int{0, 1, 2, 99} {
		for _, tails := range [][]int{nil, {1}, {5}, {9999}, {0, 9999}, {9999, 3}, {9999, 9999}} {
			l = append(l, api.Keep{Names: names, Tails: tails})
		}
	}
	return l
}

// shape is all that a disk tells, now and behind crashes.
func shape(d *disk.Disk) string {
	l := []string{surface(d)}
	for _, k := range keeps() {
		c := d.Clone()
		c.Crash(k)
		l = append(l, surface(c))
	}
	return strings.Join(l, "--\n")
}

// openActs is how many acts Open does on a disk.
func openActs(t testing.TB, d *disk.Disk) int {
	t.Helper()
	return acts(t, func(n int) bool {
		c := d.Clone()
		c.Stop(n)
		Open(c)
		return c.Dead()
	})
}

// turnActs is how many acts a turn does on a disk, once it is opened.
func turnActs(t testing.TB, d *disk.Disk, l ...api.Edit) int {
	t.Helper()
	return acts(t, func(n int) bool {
		c := d.Clone()
		m := open(t, c)
		c.Stop(n)
		m.Turn(l...)
		return c.Dead()
	})
}

// acts is up to how many acts a disk dies behind them.
func acts(t testing.TB, dies func(n int) bool) int {
	t.Helper()
	for n := 1; n < 100; n++ {
		if !dies(n) {
			return n - 1
		}
	}
	t.Fatal("there is no end of acts")
	return 0
}

// trouble is what is in a disk's way.
type trouble struct {
	what string
	make func(d *disk.Disk)
}

// troubles are none, and one at each of the first acts.
func troubles() []trouble {
	l := []trouble{{"no trouble", func(*disk.Disk) {}}}
	for n := range 7 {
		l = append(l, trouble{fmt.Sprintf("Stop(%d)", n), func(d *disk.Disk) { d.Stop(n) }})
		l = append(l, trouble{fmt.Sprintf("Fault(%d)", n), func(d *disk.Disk) { d.Fault(n) }})
	}
	return l
}

// checkOpen opens a disk as it is, and with trouble at each act, and asks for
// what the words say: the answers, and all acts, in their order.
func checkOpen(t testing.TB, d *disk.Disk) {
	t.Helper()
	for _, x := range troubles() {
		c, q := d.Clone(), d.Clone()
		x.make(c)
		x.make(q)
		m, e := Open(c)
		p, wantErr := plainOpen(q)
		if e != wantErr || (m == nil) != (e != api.OK) {
			t.Fatalf("Open with %s: %v, %d, want %d", x.what, m, e, wantErr)
		}
		if e == api.OK {
			holds(t, x.what, m, p.r, p.frames, false)
		}
		if shape(c) != shape(q) {
			t.Fatalf("Open with %s: the disk has\n%swant\n%s", x.what, surface(c), surface(q))
		}
	}
}

// checkTurn turns what is on a disk, as it is, and with trouble at each act,
// and asks for what the words say; then it turns once more.
func checkTurn(t testing.TB, d *disk.Disk, l ...api.Edit) {
	t.Helper()
	for _, x := range troubles() {
		c, q := d.Clone(), d.Clone()
		m := open(t, c)
		p, e := plainOpen(q)
		want(t, "plainOpen", e, api.OK)
		x.make(c)
		x.make(q)
		for _, turn := range [][]api.Edit{l, {mark(mostCount)}, nil} {
			want(t, "Turn with "+x.what, m.Turn(turn...), p.turn(turn))
			holds(t, x.what, m, p.r, p.frames, p.broken)
			if shape(c) != shape(q) {
				t.Fatalf("Turn with %s: the disk has\n%swant\n%s", x.what, surface(c), surface(q))
			}
		}
	}
}

// someEdit may be, with numbers that are near to those that a roster has.
func someEdit(r *rand.Rand, x api.Roster) api.Edit {
	few := func() int { return 1 + r.Intn(8) }
	last := 0
	if len(x.Segs) > 0 {
		last = x.Segs[len(x.Segs)-1]
	}
	switch r.Intn(14) {
	case 0, 1, 2:
		return seg(last + 1 + r.Intn(2))
	case 3, 4:
		return move(max(1, last-few()), r.Intn(9999))
	case 5:
		return unmove(max(1, last-few()))
	case 6, 7, 8:
		key := fmt.Sprintf("k%02d", r.Intn(100))
		return tab(1+r.Intn(200), r.Intn(3), key, key)
	case 9:
		return untab(1 + r.Intn(200))
	case 10:
		return still(r.Intn(90)+1, max(1, x.Mark-few()), few())
	case 11:
		if len(x.Stills) > 0 {
			return unstill(x.Stills[r.Intn(len(x.Stills))].Index)
		}
		return unstill(few())
	case 12:
		return base(x.Log+r.Intn(2), x.Index, x.Term, api.Hard{Term: few(), Vote: few() - 1, Commit: few()})
	}
	return mark(x.Mark + few())
}

// someTurn is edits that can be done at a roster, n at most.
func someTurn(r *rand.Rand, x api.Roster, n int) []api.Edit {
	var l []api.Edit
	for range n {
		e := someEdit(r, x)
		if next, err := roster.Apply(x, e); err == api.OK {
			l, x = append(l, e), next
		}
	}
	return l
}
