package manifest

import (
	"fmt"
	"slices"
	"testing"

	"garner/api"
	"garner/disk"
	"garner/roster"
)

// The chapter's example: Turn EditSeg 1; opened again: Segs 1.
func TestExample(t *testing.T) {
	d := newDisk(t, 1000)
	want(t, "Turn", open(t, d).Turn(seg(1)), api.OK)
	if r := open(t, d).Roster(); !slices.Equal(r.Segs, []int{1}) {
		t.Errorf("Segs %v", r.Segs)
	}
}

// Ma2: a frame of Kind 1 whose Body is the edits' bytes, told byte by byte.
func TestTurnOfKnownBytes(t *testing.T) {
	d := newDisk(t, 1000)
	want(t, "Turn", open(t, d).Turn(seg(3)), api.OK)
	n, _ := d.Size("roster")
	b, e := d.Read("roster", 0, n)
	if e != api.OK || len(b) != 9 || !slices.Equal(b[:5], []byte{3, 1, 1, 1, 3}) {
		t.Errorf("the file has %v, %d", b, e)
	}
}

// ready is a disk with a file of so many frames, which have Marks up to that.
func ready(t testing.TB, frames int) *disk.Disk {
	t.Helper()
	if frames == 0 {
		return newDisk(t, 1<<20)
	}
	return withFile(t, usual, plainBytes(marks(1, frames)...))
}

// Ma2: of no edits: OK, and nothing is done, also on a disk that is dead.
func TestTurnOfNoEdits(t *testing.T) {
	for _, frames := range []int{0, 1, 32} {
		d := ready(t, frames)
		m := open(t, d)
		before := shape(d)
		want(t, "no edits", m.Turn(), api.OK)
		want(t, "an empty list", m.Turn([]api.Edit{}...), api.OK)
		if shape(d) != before || turnActs(t, d) != 0 {
			t.Error("something was done")
		}
		holds(t, "no edits", m, api.Roster{Log: 1, Mark: frames}, frames, false)
		d.Stop(0)
		want(t, "dead", m.Turn(), api.OK)
		want(t, "dead", m.Turn(mark(99)), api.ErrDead)
		holds(t, "dead", m, api.Roster{Log: 1, Mark: frames}, frames, false)
	}
}

// Ma2: what layer 17 refuses: nothing turns, and nothing is done.
func TestTurnRefused(t *testing.T) {
	var many []api.Edit
	for n := 1; n <= 65; n++ {
		many = append(many, seg(n))
	}
	for _, frames := range []int{0, 1, 31, 32, 33} {
		d := ready(t, frames)
		m := open(t, d)
		before := shape(d)
		for _, x := range []struct {
			asked api.Errno
			l     []api.Edit
		}{
			{api.ErrArg, []api.Edit{{}}},
			{api.ErrArg, []api.Edit{seg(0)}},
			{api.ErrArg, []api.Edit{seg(mostCount + 1)}},
			{api.ErrArg, []api.Edit{seg(1), mark(-1)}},
			{api.ErrArg, []api.Edit{untab(1), mark(0)}},
			{api.ErrArg, []api.Edit{mark(0), untab(1)}},
			{api.ErrArg, append(slices.Clone(many), api.Edit{Kind: 10})},
			{api.ErrState, []api.Edit{untab(1)}},
			{api.ErrState, []api.Edit{move(1, 1)}},
			{api.ErrState, []api.Edit{seg(2), seg(1)}},
			{api.ErrState, []api.Edit{mark(99), mark(98)}},
			{api.ErrState, []api.Edit{untab(4), tab(4, 0, "a", "b")}},
			{api.ErrState, []api.Edit{seg(1), untab(1), seg(2)}},
			{api.ErrState, []api.Edit{still(1, 99, 1)}},
			{api.ErrState, []api.Edit{seg(1), move(1, 2)}},
			{api.ErrState, many},
		} {
			want(t, fmt.Sprint("Turn of ", x.l), m.Turn(x.l...), x.asked)
			holds(t, "refused", m, api.Roster{Log: 1, Mark: frames}, frames, false)
		}
		if shape(d) != before {
			t.Error("something was done")
		}
		// What layer 17 refuses is told ahead of what the disk does.
		d.Stop(0)
		want(t, "dead", m.Turn(untab(1)), api.ErrState)
		want(t, "dead", m.Turn(api.Edit{}), api.ErrArg)
		want(t, "dead", m.Turn(mark(99)), api.ErrDead)
	}
}

// Ma2: a later edit that can be done behind an earlier one alone.
func TestTurnOneBehindTheOther(t *testing.T) {
	for _, l := range [][]api.Edit{
		{seg(1), seg(2), move(1, 5)},
		{seg(1), move(1, 0)},
		{tab(4, 1, "a", "b"), untab(4), tab(4, 2, "a", "b")},
		{still(1, 90, 1), mark(90)},
		{seg(1), move(1, 5), seg(2), unmove(1)},
	} {
		for _, frames := range []int{0, 5, 32} {
			d := ready(t, frames)
			checkTurn(t, d, l...)
			m := open(t, d)
			want(t, "Turn", m.Turn(l...), api.OK)
			r := done(t, flat(flat(marks(1, frames)...), l)...)
			if !roster.Same(m.Roster(), r) || !roster.Same(open(t, d).Roster(), r) {
				t.Errorf("Turn of %v makes %v", l, m.Roster())
			}
		}
	}
}

// Ma2: of as many edits as a frame can have, and of one more.
func TestTurnOfManyEdits(t *testing.T) {
	var l []api.Edit
	for n := 100; n <= 300; n++ {
		l = append(l, mark(n))
	}
	for _, frames := range []int{0, 1, 31, 32} {
		d := ready(t, frames)
		checkTurn(t, d, l[:200]...)
		checkTurn(t, d, l...)
		m := open(t, d)
		before := shape(d)
		if frames < 32 {
			want(t, "201 edits", m.Turn(l...), api.ErrArg)
			holds(t, "201 edits", m, api.Roster{Log: 1, Mark: frames}, frames, false)
			if shape(d) != before {
				t.Error("something was done")
			}
			want(t, "200 edits", m.Turn(l[:200]...), api.OK)
			holds(t, "200 edits", m, api.Roster{Log: 1, Mark: 299}, frames+1, false)
			continue
		}
		// Renewed, the file has no frame of them.
		want(t, "201 edits", m.Turn(l...), api.OK)
		holds(t, "201 edits", m, api.Roster{Log: 1, Mark: 300}, 1, false)
	}
	// What can't be done is told ahead of how many there are.
	want(t, "201 edits", open(t, ready(t, 0)).Turn(append(l, mark(1))...), api.ErrState)
}

// Ma2: the first turn syncs the names too, the later ones do not, nor does one
// where the file was there.
func TestTurnAppends(t *testing.T) {
	d := ready(t, 0)
	checkTurn(t, d, seg(1))
	if n := turnActs(t, d, seg(1)); n != 3 {
		t.Errorf("the first turn: %d acts", n)
	}
	m := open(t, d)
	var parts [][]api.Edit
	for i, l := range rightParts() {
		if n := turnActs(t, d, l...); i > 0 && n != 2 {
			t.Errorf("turn %d: %d acts", i+1, n)
		}
		checkTurn(t, d, l...)
		parts = append(parts, l)
		want(t, "Turn", m.Turn(l...), api.OK)
		holds(t, "turned", m, done(t, flat(parts...)...), i+1, false)
		hasFile(t, d, usual, plainBytes(parts...))
		// All of it is safe.
		c := d.Clone()
		c.Crash(api.Keep{})
		hasFile(t, c, usual, plainBytes(parts...))
	}
	empty := withFile(t, usual, nil)
	if n := turnActs(t, empty, seg(1)); n != 2 {
		t.Errorf("of a file of no bytes: %d acts", n)
	}
	checkTurn(t, empty, seg(1))
}

// Ma2: 32 turns append, the one behind them renews the file.
func TestTurnRenews(t *testing.T) {
	d := newDisk(t, 1<<16)
	m := open(t, d)
	for n := 1; n <= 200; n++ {
		frames := (n-1)%32 + 1
		if n == 33 || n == 65 {
			if acts := turnActs(t, d, mark(n)); acts != 4 {
				t.Errorf("turn %d: %d acts", n, acts)
			}
			checkTurn(t, d, mark(n))
		}
		want(t, "Turn", m.Turn(mark(n)), api.OK)
		holds(t, fmt.Sprint("turn ", n), m, api.Roster{Log: 1, Mark: n}, frames, false)
		hasFile(t, d, usual, plainBytes(marks(n-frames+1, n)...))
		if l := d.Names(); !slices.Equal(l, []string{usual}) {
			t.Fatalf("there are %q", l)
		}
		if n%13 == 0 || n > 180 {
			m = open(t, d)
			holds(t, "opened again", m, api.Roster{Log: 1, Mark: n}, frames, false)
		}
	}
}

// Ma2: one with more than 32 frames, as it was found, is renewed likewise.
func TestTurnRenewsAlsoBeyond(t *testing.T) {
	for _, n := range []int{32, 33, 64, 500} {
		d := ready(t, n)
		checkTurn(t, d, mark(n+1))
		m := open(t, d)
		want(t, "Turn", m.Turn(mark(n+1)), api.OK)
		holds(t, "renewed", m, api.Roster{Log: 1, Mark: n + 1}, 1, false)
		hasFile(t, d, usual, plainBytes([]api.Edit{mark(n + 1)}))
	}
}

// full is a disk whose file has 32 frames, the first of which have these edits.
func full(t testing.TB, l []api.Edit) *disk.Disk {
	t.Helper()
	var parts [][]api.Edit
	for at := 0; at < len(l); at += 90 {
		parts = append(parts, l[at:min(at+90, len(l))])
	}
	for n := 100; len(parts) < 32; n++ {
		parts = append(parts, []api.Edit{mark(n)})
	}
	return withFile(t, usual, plainBytes(parts...))
}

// Ma2, Ma3: renewed with few edits, with none, with 100 and around, with more
// than 200, and with more segments, moved or not, than a roster has: opened
// again it is the same, and goes on so.
func TestTurnRenewsRosters(t *testing.T) {
	for _, x := range []struct {
		segs, moves, tabs int
		rest              bool
	}{
		{1, 0, 0, false}, {2, 1, 0, true}, {64, 0, 0, false}, {64, 0, 35, false}, {64, 0, 36, false}, {64, 0, 37, false},
		{20, 40, 0, false}, {3, 64, 64, true}, {18, 64, 64, true}, {19, 64, 64, true}, {64, 18, 64, true}, {64, 19, 0, false},
		{50, 49, 0, false}, {50, 50, 0, false}, {64, 36, 64, true}, {64, 37, 0, true}, {64, 50, 64, false}, {64, 63, 10, true},
		{64, 64, 0, false}, {64, 64, 0, true}, {64, 64, 7, false}, {64, 64, 8, true}, {64, 64, 64, false}, {64, 64, 64, true},
	} {
		what := fmt.Sprint(x)
		l := big(x.segs, x.moves, x.tabs, x.rest)
		d := full(t, l)
		m := open(t, d)
		if m.Frames() != 32 {
			t.Fatalf("%s: %d frames", what, m.Frames())
		}
		r, e := roster.Apply(m.Roster(), mark(5000), base(9, 0, 0, api.Hard{Vote: 3}))
		if x.rest {
			r, e = roster.Apply(m.Roster(), mark(5000), base(9, 30, 2, api.Hard{Vote: 3}))
		}
		want(t, what, e, api.OK)
		last := []api.Edit{mark(5000), base(9, r.Index, r.Term, api.Hard{Vote: 3})}
		checkTurn(t, d, last...)
		want(t, what, m.Turn(last...), api.OK)
		parts := plainParts(r)
		holds(t, what, m, r, len(parts), false)
		hasFile(t, d, usual, plainBytes(parts...))
		d.Crash(api.Keep{})
		m = open(t, d)
		holds(t, what, m, r, len(parts), false)
		hasFile(t, d, usual, plainBytes(parts...))
		checkOpen(t, d)
		want(t, what, m.Turn(mark(6000)), api.OK)
		r.Mark = 6000
		holds(t, what, m, r, len(parts)+1, false)
		holds(t, what, open(t, d), r, len(parts)+1, false)
		checkTurn(t, d, mark(6001))
	}
}

// Ma2, Ma3: renewed to what is at first: a file of no frame.
func TestTurnRenewsToNothing(t *testing.T) {
	parts := append([][]api.Edit{{seg(1)}}, flatPairs(15)...)
	parts = append(parts, []api.Edit{tab(1, 0, "a", "a")})
	d := withFile(t, usual, plainBytes(parts...))
	last := []api.Edit{move(1, 0), untab(1)}
	checkTurn(t, d, last...)
	m := open(t, d)
	if m.Frames() != 32 {
		t.Fatalf("%d frames", m.Frames())
	}
	want(t, "Turn", m.Turn(last...), api.OK)
	holds(t, "nothing", m, roster.First(), 0, false)
	hasFile(t, d, usual, nil)
	d.Crash(api.Keep{})
	hasFile(t, d, usual, nil)
	m = open(t, d)
	holds(t, "nothing", m, roster.First(), 0, false)
	if n := turnActs(t, d, seg(1)); n != 2 {
		t.Errorf("%d acts", n)
	}
	want(t, "Turn", m.Turn(seg(1)), api.OK)
	holds(t, "one", open(t, d), done(t, seg(1)), 1, false)
}

// flatPairs are parts, two by two, that leave nothing.
func flatPairs(n int) [][]api.Edit {
	var parts [][]api.Edit
	for range n {
		parts = append(parts, []api.Edit{tab(7, 0, "a", "a")}, []api.Edit{untab(7)})
	}
	return parts
}

// Ma1: more segments than a roster has are read only as a file has them that
// was renewed; any other first frame with so many is wrong.
func TestOpenOfTooManyUnlessRenewed(t *testing.T) {
	r := done(t, big(64, 64, 64, true)...)
	parts := plainParts(r)
	if len(parts) != 3 || len(parts[2]) != 62 {
		t.Fatalf("%d parts", len(parts))
	}
	// The second part ends where it may be what a roster has.
	ahead := done(t, flat(parts[:2]...)...)
	for _, x := range []struct {
		what   string
		parts  [][]api.Edit
		r      api.Roster
		frames int
	}{
		{"all", parts, r, 3},
		{"all, and more", append(slices.Clone(parts), marks(60, 63)...), done(t, append(flat(parts...), flat(marks(60, 63)...)...)...), 7},
		{"all, and what is wrong", append(slices.Clone(parts), []api.Edit{untab(99)}), r, 3},
		{"the first two", parts[:2], ahead, 2},
		{"the first two, and another", [][]api.Edit{parts[0], parts[1], {seg(129), move(128, 0)}}, done(t, append(flat(parts[:2]...), seg(129), move(128, 0))...), 3},
		{"the first two, and what is wrong", [][]api.Edit{parts[0], parts[1], {seg(129)}}, ahead, 2},
		{"the first alone", parts[:1], roster.First(), 0},
		{"the second alone", parts[1:], roster.First(), 0},
		{"without the second", [][]api.Edit{parts[0], parts[2]}, roster.First(), 0},
		{"the second twice", [][]api.Edit{parts[0], parts[1], parts[1], parts[2]}, ahead, 2},
		{"parted otherwise", [][]api.Edit{flat(parts...)[:99], flat(parts...)[99:199], flat(parts...)[199:]}, roster.First(), 0},
		{"a longer second", [][]api.Edit{parts[0], flat(parts...)[100:262]}, roster.First(), 0},
		{"another order", [][]api.Edit{parts[0], flat(parts[1][:40], parts[1][41:42], parts[1][40:41], parts[1][42:])}, roster.First(), 0},
		{"another one ahead", [][]api.Edit{{mark(1)}, parts[0], parts[1]}, api.Roster{Log: 1, Mark: 1}, 1},
		{"in one", [][]api.Edit{flat(parts[:2]...), parts[2]}, r, 2},
	} {
		d := withFile(t, usual, plainBytes(x.parts...))
		checkOpen(t, d)
		holds(t, x.what, open(t, d), x.r, x.frames, false)
		hasFile(t, d, usual, plainBytes(x.parts[:x.frames]...))
	}
	// Cut short anywhere, nothing that may not be is told.
	b := plainBytes(parts...)
	one, two := len(plainBytes(parts[:1]...)), len(plainBytes(parts[:2]...))
	for at := 0; at < len(b); at += 3 {
		d := withFile(t, usual, b[:at])
		if at < two {
			holds(t, "cut short", open(t, d), roster.First(), 0, false)
		} else {
			holds(t, "cut short", open(t, d), ahead, 2, false)
		}
	}
	for at := one; at < two; at += 5 {
		c := slices.Clone(b)
		c[at] ^= 4
		holds(t, "spoilt", open(t, withFile(t, usual, c)), roster.First(), 0, false)
	}
}
