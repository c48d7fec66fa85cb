package manifest

import (
	"fmt"
	"slices"
	"testing"

	"garner/api"
	"garner/disk"
)

// kinds are disks of which a turn does that many acts: it is the first one,
// appends, or renews the file, with few edits and with many.
func kinds(t testing.TB) []struct {
	what string
	d    *disk.Disk
	acts int
} {
	return []struct {
		what string
		d    *disk.Disk
		acts int
	}{
		{"the first turn", ready(t, 0), 3},
		{"a turn that appends", ready(t, 1), 2},
		{"the 32nd turn", ready(t, 31), 2},
		{"a turn that renews", ready(t, 32), 4},
		{"a turn that renews much", full(t, big(64, 64, 64, true)), 4},
	}
}

// checkBroken asks that a manifest is broken, and refuses all, doing nothing.
func checkBroken(t *testing.T, what string, m *Manifest, d *disk.Disk, r api.Roster, frames int) {
	t.Helper()
	holds(t, what, m, r, frames, true)
	before := shape(d)
	for _, l := range [][]api.Edit{{mark(9000)}, nil, {{}}, {untab(999)}, {seg(0)}} {
		want(t, what, m.Turn(l...), api.ErrState)
		holds(t, what, m, r, frames, true)
	}
	if shape(d) != before {
		t.Fatalf("%s: something was done", what)
	}
}

// Ma2: an act that is not done, and one ahead of which the disk dies: of the
// first one nothing turned, of a later one it is broken.
func TestTurnWithTroubleAtEachAct(t *testing.T) {
	for _, x := range kinds(t) {
		if n := turnActs(t, x.d, mark(7000)); n != x.acts {
			t.Fatalf("%s: %d acts, want %d", x.what, n, x.acts)
		}
		checkTurn(t, x.d, mark(7000))
		for n := 1; n <= x.acts+1; n++ {
			for _, asked := range []api.Errno{api.ErrFault, api.ErrDead} {
				d := x.d.Clone()
				m := open(t, d)
				r, frames := m.Roster(), m.Frames()
				before := shape(d)
				if asked == api.ErrFault {
					d.Fault(n)
				} else {
					d.Stop(n - 1)
				}
				what := fmt.Sprintf("%s, refused act %d by %d", x.what, n, asked)
				if n > x.acts {
					asked = api.OK
				}
				want(t, what, m.Turn(mark(7000)), asked)
				switch {
				case n > x.acts:
					if r.Mark = 7000; m.Broken() || m.Roster().Mark != 7000 {
						t.Fatalf("%s: %v", what, m.Roster())
					}
				case n > 1:
					checkBroken(t, what, m, d, r, frames)
					// Once the trouble is over it is broken still.
					d.Fault(0)
					d.Crash(api.Keep{Names: 99, Tails: []int{9999, 9999}})
					checkBroken(t, what, m, d, r, frames)
				default:
					holds(t, what, m, r, frames, false)
					d.Crash(api.Keep{})
					if shape(d) != before {
						t.Fatalf("%s: something was done", what)
					}
					// It may be turned as before.
					want(t, what, m.Turn(mark(7000)), api.OK)
					r.Mark = 7000
				}
				// Opened again it is whole, with what was turned or without.
				d.Crash(api.Keep{})
				m = open(t, d)
				if got := m.Roster().Mark; got != r.Mark && (got != 7000 || n == 1) {
					t.Fatalf("%s: opened again Mark is %d", what, got)
				}
				want(t, what, m.Turn(mark(8000)), api.OK)
			}
		}
	}
}

// Ma2: a broken turn leaves FileNew, or a frame, behind; Open mends it.
func TestBrokenIsMended(t *testing.T) {
	d := ready(t, 32)
	m := open(t, d)
	d.Fault(3)
	want(t, "Rename", m.Turn(mark(99)), api.ErrFault)
	if l := d.Names(); !slices.Equal(l, []string{usual, fresh}) {
		t.Fatalf("there are %q", l)
	}
	if n := openActs(t, d); n != 3 {
		t.Errorf("%d acts", n)
	}
	m = open(t, d)
	holds(t, "mended", m, api.Roster{Log: 1, Mark: 32}, 32, false)
	want(t, "Turn", m.Turn(mark(98)), api.OK)
	holds(t, "turned", m, api.Roster{Log: 1, Mark: 98}, 1, false)
	hasFile(t, d, usual, plainBytes([]api.Edit{mark(98)}))

	// Appended, and not synced: opened again it is turned, and safely so.
	d.Fault(2)
	want(t, "Sync", m.Turn(mark(200)), api.ErrFault)
	m = open(t, d)
	holds(t, "mended", m, api.Roster{Log: 1, Mark: 200}, 2, false)
	d.Crash(api.Keep{})
	holds(t, "mended", open(t, d), api.Roster{Log: 1, Mark: 200}, 2, false)

	// The first turn, whose name was not synced.
	d = ready(t, 0)
	m = open(t, d)
	d.Fault(3)
	want(t, "SyncNames", m.Turn(mark(7)), api.ErrFault)
	c := d.Clone()
	c.Crash(api.Keep{})
	holds(t, "lost", open(t, c), api.Roster{Log: 1}, 0, false)
	holds(t, "mended", open(t, d), api.Roster{Log: 1, Mark: 7}, 1, false)
	d.Crash(api.Keep{})
	holds(t, "mended", open(t, d), api.Roster{Log: 1, Mark: 7}, 1, false)
}

// Ma2: a lack of room for what a turn appends: nothing turned, and less may be turned still.
func TestTurnWithoutRoom(t *testing.T) {
	few, many := []api.Edit{mark(7)}, []api.Edit{mark(100), mark(200), tab(1, 1, "aaaa", "bbbb")}
	for frames := range 3 {
		right := plainBytes(marks(1, frames)...)
		for room := len(plainBytes(few)); room <= len(plainBytes(many)); room++ {
			d := newDisk(t, len(right)+room)
			if frames > 0 {
				put(t, d, usual, right)
			}
			checkTurn(t, d, many...)
			m := open(t, d)
			before := shape(d)
			asked := api.ErrFull
			if room == len(plainBytes(many)) {
				asked = api.OK
			}
			want(t, "many", m.Turn(many...), asked)
			if asked == api.OK {
				holds(t, "many", open(t, d), done(t, many...), frames+1, false)
				continue
			}
			holds(t, "many", m, api.Roster{Log: 1, Mark: frames}, frames, false)
			if shape(d) != before {
				t.Fatal("something was done")
			}
			want(t, "few", m.Turn(few...), api.OK)
			holds(t, "few", open(t, d), api.Roster{Log: 1, Mark: 7}, frames+1, false)
		}
	}
}

// Ma2: a lack of room for the file anew, beside the one that there is.
func TestRenewWithoutRoom(t *testing.T) {
	l := big(40, 30, 20, true)
	file := full(t, l)
	used := file.Used()
	r := done(t, append(flat(l), mark(7000))...)
	size := len(plainBytes(plainParts(r)...))
	for _, room := range []int{0, 1, size - 1, size, size + 1} {
		d := newDisk(t, used+room)
		b, _ := file.Read(usual, 0, used)
		put(t, d, usual, b)
		checkTurn(t, d, mark(7000))
		m := open(t, d)
		before, ahead := shape(d), m.Roster()
		if room >= size {
			want(t, "room", m.Turn(mark(7000)), api.OK)
			holds(t, "room", open(t, d), r, 2, false)
			continue
		}
		for range 3 {
			want(t, "no room", m.Turn(mark(7000)), api.ErrFull)
			holds(t, "no room", m, ahead, 32, false)
		}
		if shape(d) != before {
			t.Fatal("something was done")
		}
	}
	// Where room is made, it goes on.
	d := newDisk(t, used+size)
	b, _ := file.Read(usual, 0, used)
	put(t, d, usual, b)
	put(t, d, "x", []byte{1})
	m := open(t, d)
	want(t, "no room", m.Turn(mark(7000)), api.ErrFull)
	want(t, "Remove", d.Remove("x"), api.OK)
	want(t, "SyncNames", d.SyncNames(), api.OK)
	want(t, "room", m.Turn(mark(7000)), api.OK)
	holds(t, "room", open(t, d), r, 2, false)
}

// Ma2: no room for one more file.
func TestTurnWithoutAFile(t *testing.T) {
	d := newDisk(t, 1<<20)
	m := open(t, d)
	for n := range api.MaxFiles {
		want(t, "Append", d.Append(fmt.Sprint("x", n), nil), api.OK)
	}
	want(t, "the first turn", m.Turn(mark(1)), api.ErrFull)
	holds(t, "no file", m, api.Roster{Log: 1}, 0, false)
	want(t, "Remove", d.Remove("x0"), api.OK)
	for n := 1; n <= 32; n++ {
		want(t, "Turn", m.Turn(mark(n)), api.OK)
	}
	want(t, "renew", m.Turn(mark(33)), api.ErrFull)
	holds(t, "no file", m, api.Roster{Log: 1, Mark: 32}, 32, false)
	want(t, "Remove", d.Remove("x1"), api.OK)
	want(t, "renew", m.Turn(mark(33)), api.OK)
	holds(t, "renewed", m, api.Roster{Log: 1, Mark: 33}, 1, false)
	holds(t, "renewed", open(t, d), api.Roster{Log: 1, Mark: 33}, 1, false)
}

// R1: a manifest that Open did not give, and nobody's.
func TestNobodys(t *testing.T) {
	for _, m := range []*Manifest{nil, {}, new(Manifest)} {
		for _, l := range [][]api.Edit{nil, {}, {seg(1)}, {{}}, {untab(1)}} {
			want(t, "Turn", m.Turn(l...), api.ErrState)
		}
		r := m.Roster()
		if r.Log != 0 || r.Mark != 0 || len(r.Segs)+len(r.Moves)+len(r.Tabs)+len(r.Stills) != 0 {
			t.Errorf("Roster() = %v", r)
		}
		holds(t, "nobody's", m, api.Roster{}, 0, true)
	}
}
