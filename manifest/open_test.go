package manifest

import (
	"bytes"
	"slices"
	"testing"

	"garner/api"
	"garner/disk"
	"garner/roster"
)

// refuses asks that there is no manifest, but an error.
func refuses(t *testing.T, what string, d *disk.Disk, asked api.Errno) {
	t.Helper()
	if m, e := Open(d); m != nil || e != asked {
		t.Fatalf("Open of %s: %v, %d, want %d", what, m, e, asked)
	}
}

// Ma1, R1: no disk, one that New did not give, and dead ones, with files and without.
func TestOpenOfNoDisk(t *testing.T) {
	refuses(t, "no disk", nil, api.ErrArg)
	refuses(t, "nobody's disk", &disk.Disk{}, api.ErrDead)
	for _, d := range fourDisks(t) {
		d.Stop(0)
		refuses(t, "a dead disk", d, api.ErrDead)
		d.Crash(api.Keep{})
		open(t, d)
		d.Stop(0)
		refuses(t, "a disk that died later", d, api.ErrDead)
	}
}

// fourDisks are one without either file, one with each, and one with both.
func fourDisks(t *testing.T) []*disk.Disk {
	b := plainBytes(marks(1, 3)...)
	both := withFile(t, usual, b)
	put(t, both, fresh, b)
	return []*disk.Disk{newDisk(t, 1000), withFile(t, fresh, b), withFile(t, usual, b), both}
}

// Ma1: of a disk without either file: nothing at all.
func TestOpenOfNoFiles(t *testing.T) {
	d := newDisk(t, 0)
	holds(t, "new", open(t, d), api.Roster{Log: 1}, 0, false)
	if n := openActs(t, d); n != 0 {
		t.Errorf("%d acts", n)
	}
	checkOpen(t, d)
	// Other files are nobody's business here.
	d = newDisk(t, 1000)
	for _, name := range []string{"v0000000001", "w0000000001", "roster.ne", "roster.new0", "Roster", "x"} {
		want(t, "Append", d.Append(name, plainBytes(marks(1, 3)...)), api.OK)
	}
	before := shape(d)
	holds(t, "others", open(t, d), api.Roster{Log: 1}, 0, false)
	if shape(d) != before || openActs(t, d) != 0 {
		t.Error("Open turned other files")
	}
}

// Ma1: of FileNew alone, of FileRoster alone, and of both: nothing that need not be.
func TestOpenOfFiles(t *testing.T) {
	three := api.Roster{Log: 1, Mark: 3}
	l := fourDisks(t)
	for i, x := range []struct {
		r      api.Roster
		frames int
		acts   int
	}{{roster.First(), 0, 0}, {roster.First(), 0, 2}, {three, 3, 2}, {three, 3, 3}} {
		checkOpen(t, l[i])
		if n := openActs(t, l[i]); n != x.acts {
			t.Errorf("disk %d: %d acts, want %d", i, n, x.acts)
		}
		holds(t, "opened", open(t, l[i]), x.r, x.frames, false)
		if _, there := l[i].Size(fresh); there {
			t.Errorf("disk %d: FileNew is there", i)
		}
		// FileNew is gone: safely so.
		again := 0
		if x.frames > 0 {
			again = 2
		}
		l[i].Crash(api.Keep{})
		if n := openActs(t, l[i]); n != again {
			t.Errorf("disk %d: %d acts behind the first Open, want %d", i, n, again)
		}
		holds(t, "opened again", open(t, l[i]), x.r, x.frames, false)
	}
}

// Ma1: with something wrong at the end too: Remove, Cut, Sync, SyncNames, one behind the other.
func TestOpenWithTroubleAtEachAct(t *testing.T) {
	b := plainBytes(marks(1, 3)...)
	d := withFile(t, usual, append(slices.Clone(b), 9, 9))
	put(t, d, fresh, b)
	if n := openActs(t, d); n != 4 {
		t.Fatalf("%d acts", n)
	}
	for n := 1; n <= 5; n++ {
		c, q := d.Clone(), d.Clone()
		c.Fault(n)
		q.Stop(n)
		if n <= 4 {
			refuses(t, "a disk that refuses an act", c, api.ErrFault)
		} else {
			open(t, c)
		}
		if n < 4 {
			refuses(t, "a disk that dies", q, api.ErrDead)
		} else {
			open(t, q)
		}
		_, left := c.Size(fresh)
		size, _ := c.Size(usual)
		if left != (n == 1) || (size > len(b)) != (n <= 2) {
			t.Errorf("with Fault(%d): FileNew %v, %d bytes", n, left, size)
		}
		// Once the trouble is over it opens.
		c.Fault(0)
		open(t, c)
		hasFile(t, c, usual, b)
	}
	checkOpen(t, d)
	checkOpen(t, withFile(t, usual, []byte{1}))
	checkOpen(t, withFile(t, usual, b))
}

// Ma1: what is not safe, bytes and names, is behind Open.
func TestOpenMakesSafe(t *testing.T) {
	b := plainBytes(marks(1, 3)...)
	for _, wrong := range [][]byte{nil, {1}, plainBytes([]api.Edit{mark(1)})} {
		d := newDisk(t, 1000)
		want(t, "Append", d.Append(fresh, b), api.OK)
		want(t, "Append", d.Append(usual, slices.Concat(b, wrong)), api.OK)
		checkOpen(t, d)
		open(t, d)
		d.Crash(api.Keep{})
		hasFile(t, d, usual, b)
		if l := d.Names(); !slices.Equal(l, []string{usual}) {
			t.Errorf("there are %q", l)
		}
		holds(t, "safe", open(t, d), api.Roster{Log: 1, Mark: 3}, 3, false)
	}
	// FileNew that had the place of the other one not safely is not looked at.
	d := withFile(t, usual, b)
	put(t, d, fresh, plainBytes([]api.Edit{mark(9)}))
	want(t, "Remove", d.Remove(fresh), api.OK)
	checkOpen(t, d)
	open(t, d)
	d.Crash(api.Keep{})
	if l := d.Names(); !slices.Equal(l, []string{usual}) {
		t.Errorf("there are %q", l)
	}
}

// Ma1: a file of no bytes is there, and is synced.
func TestOpenOfNoBytes(t *testing.T) {
	d := newDisk(t, 100)
	want(t, "Append", d.Append(usual, nil), api.OK)
	if n := openActs(t, d); n != 2 {
		t.Errorf("%d acts", n)
	}
	checkOpen(t, d)
	holds(t, "no bytes", open(t, d), roster.First(), 0, false)
	d.Crash(api.Keep{})
	hasFile(t, d, usual, nil)
}

// rightParts are edits, part by part, that can be done.
func rightParts() [][]api.Edit {
	return [][]api.Edit{
		{seg(1), seg(2), seg(3)},
		{move(1, 5), tab(4, 1, "a", "f")},
		{mark(6), still(2, 5, 1)},
		{base(2, 4, 1, api.Hard{Term: 3, Vote: 1, Commit: 5})},
		{untab(4), tab(5, 1, "b", "c"), seg(4)},
		{unmove(1), unstill(5), mark(7)},
	}
}

// Ma1: files whose frames are all right, of any number, also beyond 32.
func TestOpenOfRightFrames(t *testing.T) {
	parts := rightParts()
	for n := range len(parts) + 1 {
		d := withFile(t, usual, plainBytes(parts[:n]...))
		checkOpen(t, d)
		holds(t, "right", open(t, d), done(t, flat(parts[:n]...)...), n, false)
		if acts := openActs(t, d); acts != 2 {
			t.Errorf("%d frames: %d acts", n, acts)
		}
	}
	for _, n := range []int{31, 32, 33, 200, 1000} {
		d := withFile(t, usual, plainBytes(marks(1, n)...))
		holds(t, "many", open(t, d), api.Roster{Log: 1, Mark: n}, n, false)
	}
	var most []api.Edit
	for n := 1; n <= fullFrame; n++ {
		most = append(most, mark(n))
	}
	d := withFile(t, usual, plainBytes(most, []api.Edit{mark(201)}))
	holds(t, "200 edits", open(t, d), api.Roster{Log: 1, Mark: 201}, 2, false)
}

// Ma1: the file's bytes, told one by one.
func TestOpenOfKnownBytes(t *testing.T) {
	b := []byte{3, 1, 1, 1, 3, 0, 0, 0, 0}
	copy(b[5:], plainBytes([]api.Edit{seg(3)})[5:])
	holds(t, "known", open(t, withFile(t, usual, b)), api.Roster{Log: 1, Segs: []int{3}}, 1, false)
}

// wrongFrames are bytes that begin with a frame that is wrong, at First and
// behind any of rightParts.
func wrongFrames() map[string][]byte {
	body := []byte{1, 9, 7}
	full := rawFrame(1, body)
	spoilt := slices.Clone(full)
	spoilt[len(spoilt)-1] ^= 1
	far := append(slices.Clone(body), 0)
	return map[string][]byte{
		"nothing but noughts":         make([]byte, 9),
		"no number":                   bytes.Repeat([]byte{255}, 12),
		"another sum":                 spoilt,
		"Kind 2":                      rawFrame(2, body),
		"Kind 250":                    rawFrame(250, body),
		"no Body":                     rawFrame(1, nil),
		"no edits":                    rawFrame(1, []byte{0}),
		"an edit too few":             rawFrame(1, []byte{2, 9, 7}),
		"a byte too many":             rawFrame(1, far),
		"a Kind of edit that is none": rawFrame(1, []byte{1, 10, 7}),
		"an edit that may not be":     rawFrame(1, []byte{1, 9, 0}),
		"201 edits":                   rawFrame(1, append([]byte{201, 1}, bytes.Repeat([]byte{9, 100}, 201)...)),
		"no such table":               plainBytes([]api.Edit{untab(99)}),
		"no such move":                plainBytes([]api.Edit{unmove(99)}),
		"no such segment":             plainBytes([]api.Edit{move(99, 1)}),
		"no such snapshot":            plainBytes([]api.Edit{unstill(99)}),
		"a segment told twice":        plainBytes([]api.Edit{seg(9), seg(9)}),
		"Mark falls":                  plainBytes([]api.Edit{mark(9), mark(8)}),
		"Log falls":                   plainBytes([]api.Edit{base(9, 0, 0, api.Hard{}), base(8, 0, 0, api.Hard{})}),
		"right, and then not":         plainBytes([]api.Edit{mark(90), seg(90), untab(99)}),
		"above Mark":                  plainBytes([]api.Edit{still(9, 20, 9)}),
		"Index above Mark":            plainBytes([]api.Edit{base(9, 20, 9, api.Hard{})}),
		"no segment is the last one":  plainBytes([]api.Edit{seg(70), move(70, 70)}),
		"tables that meet":            plainBytes([]api.Edit{tab(70, 2, "a", "c"), tab(71, 2, "b", "d")}),
	}
}

// Ma1: a frame that is wrong, at the beginning, in the middle and at the end:
// all from there on is cut off, also where what stands behind would mend it.
func TestOpenOfWrongFrames(t *testing.T) {
	parts := rightParts()
	mend := plainBytes([]api.Edit{mark(100)}, []api.Edit{seg(100)}, []api.Edit{untab(71)})
	for what, wrong := range wrongFrames() {
		for n := range len(parts) + 1 {
			right := plainBytes(parts[:n]...)
			r := done(t, flat(parts[:n]...)...)
			for _, behind := range [][]byte{nil, mend, plainBytes(parts[n:]...)} {
				d := withFile(t, usual, slices.Concat(right, wrong, behind))
				if acts := openActs(t, d); acts != 3 {
					t.Fatalf("%s behind %d: %d acts", what, n, acts)
				}
				m := open(t, d)
				holds(t, what, m, r, n, false)
				hasFile(t, d, usual, right)
				d.Crash(api.Keep{})
				hasFile(t, d, usual, right)
				// It goes on where it was cut off.
				want(t, "Turn", m.Turn(mark(500)), api.OK)
				holds(t, what, open(t, d), done(t, append(flat(parts[:n]...), mark(500))...), n+1, false)
			}
			checkOpen(t, withFile(t, usual, slices.Concat(right, wrong, mend)))
		}
	}
}

// Ma1: edits that would be too many segments, or tables, for a roster.
func TestOpenOfTooMany(t *testing.T) {
	var segs, tabs []api.Edit
	for n := 1; n <= 66; n++ {
		segs = append(segs, seg(n))
		tabs = append(tabs, tab(n, 0, "a", "b"))
	}
	for _, l := range [][]api.Edit{segs, tabs} {
		less := []api.Edit{move(1, 0), move(2, 0)}
		if l[0].Kind == 4 {
			less = []api.Edit{untab(1), untab(2)}
		}
		d := withFile(t, usual, plainBytes(l[:64], l[64:65], less))
		holds(t, "one too many", open(t, d), done(t, l[:64]...), 1, false)
		d = withFile(t, usual, plainBytes(l, less))
		holds(t, "two too many", open(t, d), roster.First(), 0, false)
		hasFile(t, d, usual, nil)
		d = withFile(t, usual, plainBytes(append(l, less...)))
		holds(t, "no more behind the last", open(t, d), done(t, append(l, less...)...), 1, false)
	}
}

// Ma1: a file cut short at any byte, and with any byte turned.
func TestOpenOfSpoiltBytes(t *testing.T) {
	parts := rightParts()
	b := plainBytes(parts...)
	ends := []int{0}
	for n := range parts {
		ends = append(ends, len(plainBytes(parts[:n+1]...)))
	}
	for at := range len(b) {
		n := 0
		for ends[n+1] <= at {
			n++
		}
		r := done(t, flat(parts[:n]...)...)
		d := withFile(t, usual, b[:at])
		holds(t, "cut short", open(t, d), r, n, false)
		hasFile(t, d, usual, b[:ends[n]])
		for _, bit := range []byte{1, 128} {
			c := slices.Clone(b)
			c[at] ^= bit
			d = withFile(t, usual, c)
			holds(t, "turned", open(t, d), r, n, false)
			hasFile(t, d, usual, b[:ends[n]])
		}
		if at%7 == 0 {
			checkOpen(t, withFile(t, usual, b[:at]))
		}
	}
}

// P1: whatever bytes there are, by themselves and as a frame's Body, Open ends,
// and tells what the words say.
func FuzzOpen(f *testing.F) {
	b := plainBytes(rightParts()...)
	f.Add(b, []byte{1, 9, 9})
	f.Add(b[:20], []byte{})
	f.Add([]byte{}, []byte{2, 1, 5, 2, 5, 7})
	f.Fuzz(func(t *testing.T, one, two []byte) {
		if len(one) > 1<<16 || len(two) > 1<<16 {
			return
		}
		body := rawFrame(1, two)
		for _, file := range [][]byte{one, slices.Concat(body, one), slices.Concat(one, body)} {
			d := withFile(t, usual, file)
			checkOpen(t, d)
			checkTurn(t, d, mark(mostCount), seg(mostCount))
		}
	})
}
