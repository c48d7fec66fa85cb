package manifest

import (
	"slices"
	"testing"

	"garner/api"
	"garner/roster"
)

// spoil turns all that can be reached from a roster.
func spoil(r api.Roster) {
	spoilList(r.Segs, -7)
	spoilList(r.Moves, api.Move{Seg: -7, Num: -7})
	spoilList(r.Tabs, api.Tab{Num: -7, First: "spoilt"})
	spoilList(r.Stills, api.Still{Num: -7})
}

func spoilList[T any](l []T, x T) {
	for i := range l[:cap(l)] {
		l[:cap(l)][i] = x
	}
}

// R3: no call writes to the edits that it is handed, nor behind their end, and none is kept.
func TestTurnKeepsNothing(t *testing.T) {
	for _, frames := range []int{0, 3, 32} {
		d := ready(t, frames)
		m := open(t, d)
		l := big(5, 3, 4, true)
		l = append(l, mark(9000), mark(9001))
		kept := slices.Clone(l)
		end := len(l) - 2
		want(t, "Turn", m.Turn(l[:end]...), api.OK)
		want(t, "Turn", m.Turn(append(slices.Clip(l[:0]), untab(99))...), api.ErrState)
		if !slices.Equal(l, kept) {
			t.Fatal("Turn wrote to its edits, or behind them")
		}
		r := done(t, append(flat(marks(1, frames)...), kept[:end]...)...)
		spoilList(l, api.Edit{Kind: -1, Tab: api.Tab{First: "spoilt"}})
		if !roster.Same(m.Roster(), r) || !roster.Same(open(t, d).Roster(), r) {
			t.Fatal("what was handed in is kept")
		}
	}
}

// R3: what Roster tells is new: it is no part of the manifest, nor of another answer.
func TestRosterIsNew(t *testing.T) {
	for _, frames := range []int{0, 31, 32} {
		d := ready(t, frames)
		m := open(t, d)
		want(t, "Turn", m.Turn(big(9, 5, 7, true)...), api.OK)
		r := done(t, append(flat(marks(1, frames)...), big(9, 5, 7, true)...)...)
		one, two := m.Roster(), m.Roster()
		spoil(one)
		if !roster.Same(two, r) || !roster.Same(m.Roster(), r) {
			t.Fatal("what Roster tells is a part of the manifest")
		}
		again := open(t, d)
		spoil(again.Roster())
		if !roster.Same(again.Roster(), r) {
			t.Fatal("what Roster tells is a part of the manifest")
		}
		want(t, "Turn", m.Turn(seg(1000)), api.OK)
		if !roster.Same(two, r) {
			t.Fatal("a turn wrote to what Roster told")
		}
		// Of one answer no two lists share memory, also where one grows.
		grown := append(two.Segs, 1, 2, 3)
		grown[0] = -1
		two.Segs = slices.Clone(r.Segs)
		if !roster.Same(two, r) {
			t.Fatal("two lists of one answer share memory")
		}
		// So of a broken one.
		d.Fault(2)
		want(t, "Turn", m.Turn(seg(1001)), api.ErrFault)
		ahead := m.Roster()
		spoil(m.Roster())
		if !roster.Same(m.Roster(), ahead) {
			t.Fatal("what Roster of a broken one tells is a part of it")
		}
	}
}

// R3: what is on the disk is no part of what is told, nor the other way round.
func TestDiskIsApart(t *testing.T) {
	d := ready(t, 1)
	m := open(t, d)
	want(t, "Turn", m.Turn(big(4, 2, 3, false)...), api.OK)
	n, _ := d.Size(usual)
	b, _ := d.Read(usual, 0, n)
	kept := slices.Clone(b)
	spoilList(b, 255)
	hasFile(t, d, usual, kept)
	r := m.Roster()
	want(t, "Cut", d.Cut(usual, 0), api.OK)
	want(t, "Append", d.Append(usual, make([]byte, len(kept))), api.OK)
	if !roster.Same(m.Roster(), r) {
		t.Fatal("the roster is a part of the disk's bytes")
	}
}
