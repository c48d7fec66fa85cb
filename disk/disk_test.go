package disk

import (
	"bytes"
	"fmt"
	"math"
	"slices"
	"strings"
	"testing"

	"garner/api"
)

const (
	mostDisk  = 1 << 22
	mostFiles = 5000
)

func newDisk(t testing.TB, quota int) *Disk {
	t.Helper()
	d, err := New(quota)
	if err != api.OK || d == nil {
		t.Fatalf("New(%d): %v", quota, err)
	}
	return d
}

// want asks for one answer of an act.
func want(t testing.TB, what string, got, asked api.Errno) {
	t.Helper()
	if got != asked {
		t.Fatalf("%s: %d, want %d", what, got, asked)
	}
}

func ok(t testing.TB, what string, got api.Errno) {
	t.Helper()
	want(t, what, got, api.OK)
}

// holds asks for all bytes of a file, by Size and Read.
func holds(t testing.TB, d *Disk, name string, b ...byte) {
	t.Helper()
	n, there := d.Size(name)
	if !there || n != len(b) {
		t.Fatalf("Size(%q): %d, %v, want %d", name, n, there, len(b))
	}
	got, err := d.Read(name, 0, n)
	if err != api.OK || !bytes.Equal(got, b) {
		t.Fatalf("Read(%q): %v, %d, want %v", name, got, err, b)
	}
}

func lacks(t testing.TB, d *Disk, names ...string) {
	t.Helper()
	for _, name := range names {
		if n, there := d.Size(name); there || n != 0 {
			t.Fatalf("Size(%q): %d, %v", name, n, there)
		}
		if slices.Contains(d.Names(), name) {
			t.Fatalf("Names has %q", name)
		}
	}
}

func uses(t testing.TB, d *Disk, n int) {
	t.Helper()
	if d.Used() != n || d.Room() != d.quota-n {
		t.Fatalf("Used %d, Room %d, want %d of %d", d.Used(), d.Room(), n, d.quota)
	}
}

// tell is all that a disk that is not dead tells.
func tell(d *Disk) string {
	var s strings.Builder
	for _, name := range d.Names() {
		n, _ := d.Size(name)
		b, err := d.Read(name, 0, n)
		fmt.Fprintf(&s, "%q %d %v %d\n", name, n, b, err)
	}
	fmt.Fprintf(&s, "%d %d %v", d.Used(), d.Room(), d.Dead())
	return s.String()
}

// Di1: New.
func TestNew(t *testing.T) {
	for _, quota := range []int{0, 1, 100, mostDisk - 1, mostDisk} {
		d := newDisk(t, quota)
		if d.Room() != quota || d.Used() != 0 || len(d.Names()) != 0 || d.Dead() {
			t.Errorf("New(%d): %s", quota, tell(d))
		}
	}
	for _, quota := range []int{-1, mostDisk + 1, math.MinInt, math.MaxInt} {
		if d, err := New(quota); d != nil || err != api.ErrArg {
			t.Errorf("New(%d): %v, %d", quota, d, err)
		}
	}
}

// Di1: Append to a new name, and to one that is there.
func TestAppend(t *testing.T) {
	d := newDisk(t, 100)
	ok(t, "new", d.Append("a", []byte{1, 2}))
	holds(t, d, "a", 1, 2)
	ok(t, "known", d.Append("a", []byte{3}))
	holds(t, d, "a", 1, 2, 3)
	ok(t, "no bytes, known", d.Append("a", nil))
	holds(t, d, "a", 1, 2, 3)
	ok(t, "no bytes, new", d.Append("b", []byte{}))
	holds(t, d, "b")
	uses(t, d, 3)
}

// Di1: a name has 1 to 16 bytes, whatever they are.
func TestAppendNames(t *testing.T) {
	d := newDisk(t, 100)
	good := []string{"x", "\x00", "\xff\xfe", strings.Repeat("n", 16), "éééééééé", "a b/c\n"}
	for _, name := range good {
		ok(t, name, d.Append(name, []byte{9}))
		holds(t, d, name, 9)
	}
	for _, name := range []string{"", strings.Repeat("n", 17), "ééééééééé", strings.Repeat("n", 5000)} {
		want(t, name, d.Append(name, []byte{9}), api.ErrArg)
		want(t, name, d.Append(name, make([]byte, 101)), api.ErrArg)
		lacks(t, d, name)
	}
	uses(t, d, len(good))
}

// Di1: up to the quota, and no byte beyond it.
func TestAppendQuota(t *testing.T) {
	for _, quota := range []int{0, 1, 10, mostDisk} {
		d := newDisk(t, quota)
		want(t, "beyond", d.Append("a", make([]byte, quota+1)), api.ErrFull)
		lacks(t, d, "a")
		ok(t, "up to it", d.Append("a", make([]byte, quota)))
		uses(t, d, quota)
		want(t, "known", d.Append("a", []byte{1}), api.ErrFull)
		want(t, "new", d.Append("b", []byte{1}), api.ErrFull)
		lacks(t, d, "b")
		ok(t, "no bytes", d.Append("b", nil))
		ok(t, "no bytes", d.Append("a", nil))
		uses(t, d, quota)
	}
}

// Di1: files that have no name but are still there are used too.
func TestAppendQuotaNameless(t *testing.T) {
	d := newDisk(t, 10)
	ok(t, "a", d.Append("a", make([]byte, 6)))
	ok(t, "Remove", d.Remove("a"))
	want(t, "beyond", d.Append("b", make([]byte, 5)), api.ErrFull)
	ok(t, "up to it", d.Append("b", make([]byte, 4)))
	uses(t, d, 10)
	ok(t, "SyncNames", d.SyncNames())
	uses(t, d, 4)
	want(t, "beyond", d.Append("b", make([]byte, 7)), api.ErrFull)
	ok(t, "up to it", d.Append("b", make([]byte, 6)))
	uses(t, d, 10)
}

// Di1: at most MaxFiles files have names.
func TestAppendMostFiles(t *testing.T) {
	d := newDisk(t, mostDisk)
	for i := range mostFiles {
		ok(t, "Append", d.Append(fmt.Sprint(i), []byte{1}))
	}
	want(t, "one more", d.Append("more", nil), api.ErrFull)
	want(t, "no name", d.Append("", nil), api.ErrArg)
	ok(t, "known", d.Append("7", []byte{2}))
	holds(t, d, "7", 1, 2)
	ok(t, "Rename", d.Rename("7", "seven"))
	want(t, "the old name", d.Append("7", nil), api.ErrFull)
	ok(t, "Rename to another's", d.Rename("seven", "8"))
	ok(t, "one in its place", d.Append("more", nil))
	want(t, "one more", d.Append("still", nil), api.ErrFull)
	ok(t, "Remove", d.Remove("9"))
	// The file of 9 is there still, but has no name.
	ok(t, "one in its place", d.Append("still", nil))
	if n := len(d.Names()); n != mostFiles {
		t.Errorf("%d names", n)
	}
	d.Crash(api.Keep{Names: mostFiles})
	if n := len(d.Names()); n != mostFiles {
		t.Errorf("%d names behind a crash", n)
	}
}

// Di1: Cut to 0, to less than is safe, to more, to all.
func TestCut(t *testing.T) {
	for _, c := range []struct{ n, stays int }{{0, 0}, {1, 1}, {2, 2}, {3, 3}, {4, 3}, {5, 3}} {
		d := newDisk(t, 100)
		ok(t, "Append", d.Append("a", []byte{1, 2, 3}))
		ok(t, "Sync", d.Sync("a"))
		ok(t, "SyncNames", d.SyncNames())
		ok(t, "Append", d.Append("a", []byte{4, 5}))
		ok(t, "Cut", d.Cut("a", c.n))
		holds(t, d, "a", []byte{1, 2, 3, 4, 5}[:c.n]...)
		uses(t, d, c.n)
		d.Crash(api.Keep{})
		holds(t, d, "a", []byte{1, 2, 3, 4, 5}[:c.stays]...)
		uses(t, d, c.stays)
	}
}

// Di1: what was cut, and stands there again, is not safe.
func TestCutThenAppend(t *testing.T) {
	d := newDisk(t, 100)
	ok(t, "Append", d.Append("a", []byte{1, 2, 3}))
	ok(t, "Sync", d.Sync("a"))
	ok(t, "SyncNames", d.SyncNames())
	ok(t, "Cut", d.Cut("a", 1))
	ok(t, "Append", d.Append("a", []byte{7, 8}))
	holds(t, d, "a", 1, 7, 8)
	d.Crash(api.Keep{})
	holds(t, d, "a", 1)
}

func TestCutRefused(t *testing.T) {
	d := newDisk(t, 100)
	ok(t, "Append", d.Append("a", []byte{1, 2, 3}))
	for _, n := range []int{-1, 4, math.MinInt, math.MaxInt} {
		want(t, "Cut", d.Cut("a", n), api.ErrArg)
	}
	holds(t, d, "a", 1, 2, 3)
	for _, name := range []string{"b", "", strings.Repeat("n", 17)} {
		for _, n := range []int{-1, 0, 4} {
			want(t, "Cut of no file", d.Cut(name, n), api.ErrNone)
		}
	}
}

// Di1: Sync makes bytes safe, and SyncNames turns; neither does the other's.
func TestSync(t *testing.T) {
	for _, c := range []struct {
		sync, names bool
		keep        api.Keep
		there       bool
		bytes       []byte
	}{
		{false, false, api.Keep{}, false, nil},
		{true, false, api.Keep{Tails: []int{9}}, false, nil},
		{false, true, api.Keep{}, true, nil},
		{true, true, api.Keep{}, true, []byte{1, 2}},
		{true, false, api.Keep{Names: 1}, true, []byte{1, 2}},
		{false, true, api.Keep{Tails: []int{1}}, true, []byte{1}},
	} {
		d := newDisk(t, 100)
		ok(t, "Append", d.Append("a", []byte{1, 2}))
		if c.sync {
			ok(t, "Sync", d.Sync("a"))
		}
		if c.names {
			ok(t, "SyncNames", d.SyncNames())
		}
		d.Crash(c.keep)
		if c.there {
			holds(t, d, "a", c.bytes...)
		} else {
			lacks(t, d, "a")
		}
		uses(t, d, len(c.bytes))
	}
}

func TestSyncRefused(t *testing.T) {
	d := newDisk(t, 100)
	for _, name := range []string{"a", "", strings.Repeat("n", 17)} {
		want(t, "Sync", d.Sync(name), api.ErrNone)
	}
	ok(t, "SyncNames of none", d.SyncNames())
}

// Sync is of one file alone.
func TestSyncOne(t *testing.T) {
	d := newDisk(t, 100)
	ok(t, "Append", d.Append("a", []byte{1}))
	ok(t, "Append", d.Append("b", []byte{2}))
	ok(t, "SyncNames", d.SyncNames())
	ok(t, "Sync", d.Sync("b"))
	d.Crash(api.Keep{})
	holds(t, d, "a")
	holds(t, d, "b", 2)
}

// Di2: Rename to a new name.
func TestRename(t *testing.T) {
	d := newDisk(t, 100)
	ok(t, "Append", d.Append("a", []byte{1, 2}))
	ok(t, "Sync", d.Sync("a"))
	ok(t, "SyncNames", d.SyncNames())
	ok(t, "Rename", d.Rename("a", "b"))
	lacks(t, d, "a")
	holds(t, d, "b", 1, 2)
	uses(t, d, 2)
	undone := d.Clone()
	undone.Crash(api.Keep{})
	lacks(t, undone, "b")
	holds(t, undone, "a", 1, 2)
	done := d.Clone()
	done.Crash(api.Keep{Names: 1})
	lacks(t, done, "a")
	holds(t, done, "b", 1, 2)
	ok(t, "SyncNames", d.SyncNames())
	d.Crash(api.Keep{})
	lacks(t, d, "a")
	holds(t, d, "b", 1, 2)
	uses(t, d, 2)
}

// Di2: Rename to another file's name: it is one turn, and what had the name is
// there till it is safe.
func TestRenameOver(t *testing.T) {
	d := newDisk(t, 100)
	ok(t, "Append", d.Append("a", []byte{1, 2}))
	ok(t, "Append", d.Append("b", []byte{3, 4, 5}))
	ok(t, "Sync", d.Sync("a"))
	ok(t, "Sync", d.Sync("b"))
	ok(t, "SyncNames", d.SyncNames())
	ok(t, "Rename", d.Rename("a", "b"))
	lacks(t, d, "a")
	holds(t, d, "b", 1, 2)
	uses(t, d, 5)
	undone := d.Clone()
	undone.Crash(api.Keep{})
	holds(t, undone, "a", 1, 2)
	holds(t, undone, "b", 3, 4, 5)
	uses(t, undone, 5)
	done := d.Clone()
	done.Crash(api.Keep{Names: 1})
	lacks(t, done, "a")
	holds(t, done, "b", 1, 2)
	uses(t, done, 2)
	ok(t, "SyncNames", d.SyncNames())
	uses(t, d, 2)
}

// Di2: Rename of what was never safe, over what was never safe.
func TestRenameOverLoose(t *testing.T) {
	d := newDisk(t, 100)
	ok(t, "Append", d.Append("a", []byte{1}))
	ok(t, "Append", d.Append("b", []byte{2, 3}))
	ok(t, "Rename", d.Rename("b", "a"))
	holds(t, d, "a", 2, 3)
	uses(t, d, 3)
	for _, c := range []struct {
		names int
		a, b  []byte
	}{{0, nil, nil}, {1, []byte{1}, nil}, {2, []byte{1}, []byte{2, 3}}, {3, []byte{2, 3}, nil}} {
		e := d.Clone()
		e.Crash(api.Keep{Names: c.names, Tails: []int{9, 9}})
		for name, b := range map[string][]byte{"a": c.a, "b": c.b} {
			if b == nil {
				lacks(t, e, name)
			} else {
				holds(t, e, name, b...)
			}
		}
		uses(t, e, len(c.a)+len(c.b))
	}
}

// Di2: of one name nothing turns; it is an act nevertheless.
func TestRenameItself(t *testing.T) {
	d := newDisk(t, 100)
	ok(t, "Append", d.Append("a", []byte{1}))
	ok(t, "Rename", d.Rename("a", "a"))
	holds(t, d, "a", 1)
	ok(t, "Remove", d.Remove("a"))
	e := d.Clone()
	e.Crash(api.Keep{Names: 1, Tails: []int{1}})
	holds(t, e, "a", 1)
	d.Crash(api.Keep{Names: 2, Tails: []int{1}})
	lacks(t, d, "a")

	ok(t, "Append", d.Append("a", []byte{1}))
	d.Fault(1)
	want(t, "Rename", d.Rename("a", "a"), api.ErrFault)
	d.Stop(1)
	ok(t, "Rename", d.Rename("a", "a"))
	if !d.Dead() {
		t.Error("Rename of one name is no act")
	}
}

func TestRenameRefused(t *testing.T) {
	d := newDisk(t, 100)
	ok(t, "Append", d.Append("a", []byte{1}))
	long := strings.Repeat("n", 17)
	for _, old := range []string{"a", "b", "", long} {
		for _, fresh := range []string{"", long} {
			want(t, "to no name", d.Rename(old, fresh), api.ErrArg)
		}
	}
	for _, old := range []string{"b", "", long} {
		for _, fresh := range []string{"a", "b", "c"} {
			want(t, "of no file", d.Rename(old, fresh), api.ErrNone)
		}
	}
	holds(t, d, "a", 1)
	if !slices.Equal(d.Names(), []string{"a"}) {
		t.Errorf("Names: %v", d.Names())
	}
	ok(t, "16 bytes", d.Rename("a", long[:16]))
	ok(t, "1 byte", d.Rename(long[:16], "z"))
	holds(t, d, "z", 1)
}

// Di2: Remove, and Append to that name again: another file.
func TestRemove(t *testing.T) {
	d := newDisk(t, 100)
	ok(t, "Append", d.Append("a", []byte{1, 2, 3}))
	ok(t, "Sync", d.Sync("a"))
	ok(t, "SyncNames", d.SyncNames())
	ok(t, "Remove", d.Remove("a"))
	lacks(t, d, "a")
	uses(t, d, 3)
	want(t, "again", d.Remove("a"), api.ErrNone)
	_, err := d.Read("a", 0, 0)
	want(t, "Read", err, api.ErrNone)
	ok(t, "Append", d.Append("a", []byte{9}))
	holds(t, d, "a", 9)
	uses(t, d, 4)
	for _, c := range []struct {
		names int
		bytes []byte
	}{{0, []byte{1, 2, 3}}, {1, nil}, {2, []byte{9}}} {
		e := d.Clone()
		e.Crash(api.Keep{Names: c.names, Tails: []int{1}})
		if c.bytes == nil {
			lacks(t, e, "a")
		} else {
			holds(t, e, "a", c.bytes...)
		}
		uses(t, e, len(c.bytes))
	}
	ok(t, "SyncNames", d.SyncNames())
	uses(t, d, 1)
	d.Crash(api.Keep{Tails: []int{1}})
	holds(t, d, "a", 9)
}

// Di2: what never had a safe name is there till the turns are safe.
func TestRemoveLoose(t *testing.T) {
	d := newDisk(t, 100)
	ok(t, "Append", d.Append("a", []byte{1, 2}))
	ok(t, "Remove", d.Remove("a"))
	uses(t, d, 2)
	e := d.Clone()
	e.Crash(api.Keep{Names: 1, Tails: []int{2}})
	holds(t, e, "a", 1, 2)
	e = d.Clone()
	e.Crash(api.Keep{Names: 2, Tails: []int{2}})
	lacks(t, e, "a")
	uses(t, e, 0)
	ok(t, "SyncNames", d.SyncNames())
	uses(t, d, 0)
}

func TestRemoveRefused(t *testing.T) {
	d := newDisk(t, 100)
	ok(t, "Append", d.Append("a", []byte{1}))
	for _, name := range []string{"b", "", strings.Repeat("n", 17)} {
		want(t, "Remove", d.Remove(name), api.ErrNone)
	}
	holds(t, d, "a", 1)
}

// Di3: Read at all places, and beside them.
func TestRead(t *testing.T) {
	d := newDisk(t, 100)
	all := []byte{1, 2, 3}
	ok(t, "Append", d.Append("a", all))
	for at := 0; at <= len(all); at++ {
		for n := 0; n <= len(all)-at; n++ {
			b, err := d.Read("a", at, n)
			if err != api.OK || !bytes.Equal(b, all[at:at+n]) {
				t.Errorf("Read(%d, %d): %v, %d", at, n, b, err)
			}
		}
	}
	for _, c := range [][2]int{{-1, 0}, {0, -1}, {-1, -1}, {-1, 2}, {0, 4}, {3, 1}, {2, 2}, {4, 1}, {4, -1},
		{math.MaxInt, 1}, {1, math.MaxInt}, {math.MaxInt, math.MaxInt}, {math.MinInt, math.MaxInt}, {math.MinInt, math.MinInt}} {
		if b, err := d.Read("a", c[0], c[1]); b != nil || err != api.ErrArg {
			t.Errorf("Read(%d, %d): %v, %d", c[0], c[1], b, err)
		}
	}
	// From beyond the end on there are 0 bytes: not fewer than 0.
	for _, at := range []int{4, 100, math.MaxInt} {
		if b, err := d.Read("a", at, 0); len(b) != 0 || err != api.OK {
			t.Errorf("Read(%d, 0): %v, %d", at, b, err)
		}
	}
	for _, name := range []string{"b", "", strings.Repeat("n", 17)} {
		for _, n := range []int{-1, 0, 1} {
			if b, err := d.Read(name, n, n); b != nil || err != api.ErrNone {
				t.Errorf("Read(%q): %v, %d", name, b, err)
			}
		}
	}
}

// Di3: Names in order of their bytes; Size.
func TestNames(t *testing.T) {
	d := newDisk(t, 100)
	order := []string{"\x00", "A", "B", "a", "a\x00", "aa", "b", "é", "\xff"}
	for _, i := range newSource().Perm(len(order)) {
		ok(t, "Append", d.Append(order[i], make([]byte, i)))
	}
	if !slices.Equal(d.Names(), order) {
		t.Errorf("Names: %q", d.Names())
	}
	for i, name := range order {
		if n, there := d.Size(name); n != i || !there {
			t.Errorf("Size(%q): %d, %v", name, n, there)
		}
	}
	lacks(t, d, "c", "", strings.Repeat("n", 17))
}

// acts is one act of each kind, each of which is done on prepared's disk.
func acts() map[string]func(d *Disk) api.Errno {
	return map[string]func(d *Disk) api.Errno{
		"Append":     func(d *Disk) api.Errno { return d.Append("a", []byte{7}) },
		"Append new": func(d *Disk) api.Errno { return d.Append("z", []byte{7}) },
		"Append 0":   func(d *Disk) api.Errno { return d.Append("a", nil) },
		"Cut":        func(d *Disk) api.Errno { return d.Cut("a", 1) },
		"Cut all":    func(d *Disk) api.Errno { return d.Cut("a", 3) },
		"Sync":       func(d *Disk) api.Errno { return d.Sync("a") },
		"SyncNames":  func(d *Disk) api.Errno { return d.SyncNames() },
		"Rename":     func(d *Disk) api.Errno { return d.Rename("a", "z") },
		"Rename a":   func(d *Disk) api.Errno { return d.Rename("a", "a") },
		"Remove":     func(d *Disk) api.Errno { return d.Remove("a") },
	}
}

// refused is calls of each kind of act that are refused on prepared's disk.
func refused() map[string]func(d *Disk) api.Errno {
	return map[string]func(d *Disk) api.Errno{
		"Append arg":  func(d *Disk) api.Errno { return d.Append("", nil) },
		"Append full": func(d *Disk) api.Errno { return d.Append("a", make([]byte, 101)) },
		"Cut none":    func(d *Disk) api.Errno { return d.Cut("y", 0) },
		"Cut arg":     func(d *Disk) api.Errno { return d.Cut("a", -1) },
		"Sync none":   func(d *Disk) api.Errno { return d.Sync("y") },
		"Rename arg":  func(d *Disk) api.Errno { return d.Rename("a", "") },
		"Rename none": func(d *Disk) api.Errno { return d.Rename("y", "z") },
		"Remove none": func(d *Disk) api.Errno { return d.Remove("y") },
	}
}

func prepared(t testing.TB) *Disk {
	d := newDisk(t, 100)
	ok(t, "Append", d.Append("a", []byte{1, 2}))
	ok(t, "Sync", d.Sync("a"))
	ok(t, "SyncNames", d.SyncNames())
	ok(t, "Append", d.Append("a", []byte{3}))
	ok(t, "Append", d.Append("b", []byte{4}))
	return d
}

// crashes is what a disk may be behind crashes, so that what is safe is told.
func crashes(d *Disk) string {
	var s strings.Builder
	for _, k := range []api.Keep{{}, {Names: 1}, {Names: 2}, {Names: 9, Tails: []int{9, 9}}} {
		e := d.Clone()
		e.Crash(k)
		s.WriteString(tell(e) + "\n")
	}
	return s.String()
}

// Di3: behind n acts the disk is dead, and not ahead of that.
func TestStop(t *testing.T) {
	for what, act := range acts() {
		for n := range 4 {
			d := prepared(t)
			d.Stop(n)
			for range n {
				if d.Dead() {
					t.Fatalf("%s: dead too early", what)
				}
				for refusedName, call := range refused() {
					if err := call(d); err == api.OK || err == api.ErrDead {
						t.Fatalf("%s: %d", refusedName, err)
					}
				}
				d.Read("a", 0, 1)
				d.Size("a")
				d.Names()
				ok(t, "Append", d.Append("a", nil))
			}
			if !d.Dead() {
				t.Fatalf("%s: not dead behind %d acts", what, n)
			}
			before := tell(d)
			want(t, what, act(d), api.ErrDead)
			if tell(d) != before {
				t.Errorf("%s: a dead disk turned", what)
			}
			d.Crash(api.Keep{})
			for range 9 {
				ok(t, "Sync behind a crash", d.Sync("a"))
			}
		}
		d := prepared(t)
		d.Stop(1)
		ok(t, what, act(d))
		if !d.Dead() {
			t.Errorf("%s is no act", what)
		}
	}
}

// Di3: Stop counts from now on; of below 0 it never dies.
func TestStopAgain(t *testing.T) {
	for _, n := range []int{-1, -2, math.MinInt} {
		d := prepared(t)
		d.Stop(2)
		ok(t, "Sync", d.Sync("a"))
		d.Stop(n)
		for range 9 {
			ok(t, "Sync", d.Sync("a"))
		}
	}
	d := prepared(t)
	d.Stop(1)
	d.Stop(3)
	for range 3 {
		ok(t, "Sync", d.Sync("a"))
	}
	want(t, "Sync", d.Sync("a"), api.ErrDead)
	// A disk that is dead is so till a crash.
	for _, n := range []int{-1, 0, 1, 5, math.MaxInt} {
		d.Stop(n)
		want(t, "Sync", d.Sync("a"), api.ErrDead)
	}
	d.Crash(api.Keep{})
	for range 9 {
		ok(t, "Sync", d.Sync("a"))
	}
	d.Stop(math.MaxInt)
	for range 9 {
		ok(t, "Sync", d.Sync("a"))
	}
}

// Di3: the n-th act is not done, each other one is.
func TestFault(t *testing.T) {
	for what, act := range acts() {
		d := prepared(t)
		for _, n := range []int{1, 2, 4} {
			d.Fault(n)
			for range n - 1 {
				ok(t, "Append", d.Append("b", []byte{1}))
				for refusedName, call := range refused() {
					if err := call(d); err == api.OK || err == api.ErrFault {
						t.Fatalf("%s: %d", refusedName, err)
					}
				}
				d.Read("a", 0, 1)
				d.Read("a", -1, 1)
				d.Size("a")
				d.Names()
			}
			before, behind := tell(d), crashes(d)
			want(t, what, act(d), api.ErrFault)
			if tell(d) != before || crashes(d) != behind {
				t.Errorf("%s: turned by what was not done", what)
			}
		}
		ok(t, what, act(d))
		for range 9 {
			ok(t, "Append", d.Append("b", []byte{1}))
		}
	}
}

// Di3: Fault counts from now on; of below 1 there is none.
func TestFaultAgain(t *testing.T) {
	for _, n := range []int{0, -1, math.MinInt} {
		d := prepared(t)
		d.Fault(2)
		ok(t, "Sync", d.Sync("a"))
		d.Fault(n)
		for range 9 {
			ok(t, "Sync", d.Sync("a"))
		}
	}
	d := prepared(t)
	d.Fault(1)
	d.Fault(3)
	ok(t, "Sync", d.Sync("a"))
	ok(t, "Sync", d.Sync("a"))
	want(t, "Sync", d.Sync("a"), api.ErrFault)
	d.Fault(math.MaxInt)
	for range 9 {
		ok(t, "Sync", d.Sync("a"))
	}
}

// Di3: what is faulted counts as an act of Stop's.
func TestFaultAndStop(t *testing.T) {
	d := prepared(t)
	d.Stop(2)
	d.Fault(1)
	want(t, "Sync", d.Sync("a"), api.ErrFault)
	ok(t, "Sync", d.Sync("a"))
	want(t, "Sync", d.Sync("a"), api.ErrDead)

	d = prepared(t)
	d.Stop(1)
	d.Fault(1)
	want(t, "Remove", d.Remove("a"), api.ErrFault)
	if !d.Dead() || !slices.Contains(d.Names(), "a") {
		t.Error("Stop and Fault of one act")
	}
	want(t, "Sync", d.Sync("a"), api.ErrDead)

	// A dead disk's calls are no acts, so Fault waits, and a crash lets it go.
	d = prepared(t)
	d.Fault(2)
	d.Stop(1)
	ok(t, "Sync", d.Sync("a"))
	for range 3 {
		want(t, "Sync", d.Sync("a"), api.ErrDead)
	}
	d.Crash(api.Keep{})
	for range 3 {
		ok(t, "Sync", d.Sync("a"))
	}
}

// Di1, Di3: a dead disk tells ErrDead ahead of all else; what it has is told.
func TestDead(t *testing.T) {
	d := prepared(t)
	d.Stop(0)
	if !d.Dead() {
		t.Fatal("not dead")
	}
	for what, call := range acts() {
		want(t, what, call(d), api.ErrDead)
	}
	for what, call := range refused() {
		want(t, what, call(d), api.ErrDead)
	}
	for _, c := range []struct {
		name  string
		at, n int
	}{{"a", 0, 1}, {"a", -1, 1}, {"y", 0, 0}, {"", 0, 0}} {
		if b, err := d.Read(c.name, c.at, c.n); b != nil || err != api.ErrDead {
			t.Errorf("Read: %v, %d", b, err)
		}
	}
	uses(t, d, 4)
	if n, there := d.Size("a"); n != 3 || !there {
		t.Errorf("Size: %d, %v", n, there)
	}
	if n, there := d.Size("y"); n != 0 || there {
		t.Errorf("Size: %d, %v", n, there)
	}
	if !slices.Equal(d.Names(), []string{"a", "b"}) {
		t.Errorf("Names: %v", d.Names())
	}
	if e := d.Clone(); !e.Dead() || tell(e) != tell(d) {
		t.Error("Clone of a dead disk")
	}
	d.Fault(1)
	want(t, "Sync", d.Sync("a"), api.ErrDead)
	d.Crash(api.Keep{})
	if d.Dead() {
		t.Error("dead behind a crash")
	}
	holds(t, d, "a", 1, 2)
	lacks(t, d, "b")
}

// Di4: k.Names.
func TestCrashNames(t *testing.T) {
	base := newDisk(t, 100)
	for _, name := range []string{"a", "b"} {
		ok(t, "Append", base.Append(name, []byte(name)))
		ok(t, "Sync", base.Sync(name))
	}
	ok(t, "SyncNames", base.SyncNames())
	// A file's name turns several times among others' turns.
	ok(t, "1", base.Rename("a", "c"))
	ok(t, "2", base.Append("a", nil))
	ok(t, "3", base.Rename("c", "d"))
	ok(t, "4", base.Remove("b"))
	ok(t, "5", base.Rename("d", "a"))
	ok(t, "6", base.Append("b", nil))
	ok(t, "7", base.Rename("a", "b"))
	steps := []string{"a=a b=b", "b=b c=a", "a= b=b c=a", "a= b=b d=a", "a= d=a", "a=a", "a=a b=", "b=a"}
	asked := map[int]int{-1: 0, math.MinInt: 0, 8: 7, math.MaxInt: 7}
	for n := range steps {
		asked[n] = n
	}
	for n, at := range asked {
		d := base.Clone()
		d.Crash(api.Keep{Names: n})
		if got := brief(t, d); got != steps[at] {
			t.Errorf("Names %d: %s, want %s", n, got, steps[at])
		}
		// All is safe then.
		d.Crash(api.Keep{})
		if got := brief(t, d); got != steps[at] {
			t.Errorf("Names %d, and again: %s, want %s", n, got, steps[at])
		}
	}
}

func brief(t testing.TB, d *Disk) string {
	var l []string
	for _, name := range d.Names() {
		n, _ := d.Size(name)
		b, err := d.Read(name, 0, n)
		ok(t, "Read", err)
		l = append(l, name+"="+string(b))
	}
	return strings.Join(l, " ")
}

// Di4: k.Tails has places for those files alone that have bytes that are not safe.
func TestCrashTails(t *testing.T) {
	base := newDisk(t, 100)
	for _, name := range []string{"a", "b", "c", "d"} {
		ok(t, "Append", base.Append(name, []byte{1, 2}))
	}
	ok(t, "Sync", base.Sync("a"))
	ok(t, "Sync", base.Sync("b"))
	ok(t, "Sync", base.Sync("d"))
	ok(t, "SyncNames", base.SyncNames())
	ok(t, "Append", base.Append("d", []byte{3, 4, 5}))
	ok(t, "Append", base.Append("b", []byte{6}))
	for _, c := range []struct {
		tails   []int
		b, c, d int
	}{
		{nil, 2, 0, 2},
		{[]int{}, 2, 0, 2},
		{[]int{1}, 3, 0, 2},
		{[]int{0, 1}, 2, 1, 2},
		{[]int{1, 2, 3}, 3, 2, 5},
		{[]int{1, 1, 1}, 3, 1, 3},
		{[]int{9, 9, 9}, 3, 2, 5},
		{[]int{9, -1, 2, 9, 9}, 3, 0, 4},
		{[]int{-1, math.MinInt, math.MaxInt}, 2, 0, 5},
		{[]int{math.MaxInt, math.MaxInt, -5}, 3, 2, 2},
	} {
		d := base.Clone()
		d.Crash(api.Keep{Tails: c.tails})
		for range 2 {
			holds(t, d, "a", 1, 2)
			holds(t, d, "b", []byte{1, 2, 6}[:c.b]...)
			holds(t, d, "c", []byte{1, 2}[:c.c]...)
			holds(t, d, "d", []byte{1, 2, 3, 4, 5}[:c.d]...)
			uses(t, d, 2+c.b+c.c+c.d)
			// All is safe then.
			d.Crash(api.Keep{})
		}
	}
}

// Di4: the names that a crash leaves are those by which k.Tails goes.
func TestCrashTailsByNamesLeft(t *testing.T) {
	base := newDisk(t, 100)
	ok(t, "Append", base.Append("a", []byte{1}))
	ok(t, "Append", base.Append("b", []byte{2, 2}))
	ok(t, "SyncNames", base.SyncNames())
	ok(t, "Rename", base.Rename("a", "c"))
	d := base.Clone()
	d.Crash(api.Keep{Tails: []int{1, 0}})
	holds(t, d, "a", 1)
	holds(t, d, "b")
	d = base.Clone()
	d.Crash(api.Keep{Names: 1, Tails: []int{1, 0}})
	holds(t, d, "b", 2)
	holds(t, d, "c")
	// A file that a crash leaves no name has no place.
	ok(t, "Append", base.Append("aa", []byte{3}))
	base.Crash(api.Keep{Names: 1, Tails: []int{2, 1}})
	holds(t, base, "b", 2, 2)
	holds(t, base, "c", 1)
	lacks(t, base, "aa")
	uses(t, base, 3)
}

// Di4: Stop and Fault are off behind a crash.
func TestCrashStopAndFaultOff(t *testing.T) {
	for n := range 4 {
		d := prepared(t)
		d.Stop(n)
		d.Fault(n)
		d.Crash(api.Keep{})
		if d.Dead() {
			t.Fatal("dead")
		}
		for range 9 {
			ok(t, "Append", d.Append("a", []byte{1}))
		}
	}
}

// Di4: a clone is as the disk is, and each turns by itself.
func TestClone(t *testing.T) {
	for what, act := range acts() {
		for _, name := range []string{"the disk", "the clone"} {
			d := prepared(t)
			d.Stop(5)
			d.Fault(3)
			e := d.Clone()
			if tell(d) != tell(e) || crashes(d) != crashes(e) {
				t.Fatalf("another one: %s and %s", tell(d), tell(e))
			}
			turned, still := d, e
			if name == "the clone" {
				turned, still = e, d
			}
			before, behind := tell(still), crashes(still)
			ok(t, what, act(turned))
			ok(t, "Append", turned.Append("b", []byte{8}))
			want(t, "Append", turned.Append("b", []byte{8}), api.ErrFault)
			turned.Crash(api.Keep{Names: 9, Tails: []int{9, 9, 9}})
			turned.Stop(0)
			if tell(still) != before || crashes(still) != behind {
				t.Errorf("%s of %s turns the other", what, name)
			}
			ok(t, "Sync", still.Sync("a"))
			ok(t, "Sync", still.Sync("a"))
			want(t, "Sync", still.Sync("a"), api.ErrFault)
			ok(t, "Sync", still.Sync("a"))
			ok(t, "Sync", still.Sync("a"))
			want(t, "Sync", still.Sync("a"), api.ErrDead)
		}
	}
}

// A clone's bytes have room of their own: both get bytes behind the same ones.
func TestCloneAppend(t *testing.T) {
	d := newDisk(t, 100)
	for range 5 {
		ok(t, "Append", d.Append("a", []byte{0}))
	}
	e := d.Clone()
	ok(t, "Append", d.Append("a", []byte{1}))
	ok(t, "Append", e.Append("a", []byte{2}))
	holds(t, d, "a", 0, 0, 0, 0, 0, 1)
	holds(t, e, "a", 0, 0, 0, 0, 0, 2)
}

// The chapter's example.
func TestExample(t *testing.T) {
	d := newDisk(t, 100)
	ok(t, "Append", d.Append("a", []byte{1, 2}))
	ok(t, "Sync", d.Sync("a"))
	ok(t, "SyncNames", d.SyncNames())
	ok(t, "Append", d.Append("a", []byte{3}))
	d.Crash(api.Keep{})
	holds(t, d, "a", 1, 2)
}

// R1: a Disk that New did not give.
func TestNotGiven(t *testing.T) {
	for what, d := range map[string]*Disk{"nil": nil, "zero": {}} {
		for range 2 {
			for name, call := range acts() {
				want(t, what+" "+name, call(d), api.ErrDead)
			}
			for name, call := range refused() {
				want(t, what+" "+name, call(d), api.ErrDead)
			}
			if b, err := d.Read("a", 0, 0); b != nil || err != api.ErrDead {
				t.Errorf("%s: Read %v, %d", what, b, err)
			}
			if n, there := d.Size("a"); n != 0 || there {
				t.Errorf("%s: Size %d, %v", what, n, there)
			}
			if len(d.Names()) != 0 || d.Used() != 0 || d.Room() != 0 {
				t.Errorf("%s: %v, %d, %d", what, d.Names(), d.Used(), d.Room())
			}
			if !d.Dead() {
				t.Errorf("%s: not dead, but ErrDead", what)
			}
			if e := d.Clone(); e != nil {
				t.Errorf("%s: Clone %v", what, e)
			}
			d.Stop(-1)
			d.Stop(1)
			d.Fault(1)
			d.Crash(api.Keep{Names: 1, Tails: []int{1}})
		}
	}
}

// R3: nothing that is handed in is written to, or kept.
func TestNothingWritten(t *testing.T) {
	d := newDisk(t, 100)
	room := []byte{1, 2, 3, 4}
	ok(t, "Append", d.Append("a", room[:2]))
	ok(t, "Append", d.Append("a", []byte{9, 9}))
	if !bytes.Equal(room, []byte{1, 2, 3, 4}) {
		t.Errorf("Append wrote: %v", room)
	}
	room[0], room[1] = 7, 7
	holds(t, d, "a", 1, 2, 9, 9)
	ok(t, "Append", d.Append("b", []byte{1, 2}))
	tails := []int{1, 5, 7}
	d.Crash(api.Keep{Names: 2, Tails: tails[:2]})
	if !slices.Equal(tails, []int{1, 5, 7}) {
		t.Errorf("Crash wrote: %v", tails)
	}
}

// R3: what is told is no part of the disk.
func TestAnswersAreNew(t *testing.T) {
	d := prepared(t)
	b, _ := d.Read("a", 0, 3)
	c, _ := d.Read("a", 0, 3)
	clear(b)
	if !bytes.Equal(c, []byte{1, 2, 3}) {
		t.Error("two answers share memory")
	}
	holds(t, d, "a", 1, 2, 3)
	b, _ = d.Read("a", 0, 1)
	_ = append(b, 9, 9)
	holds(t, d, "a", 1, 2, 3)
	names := d.Names()
	clear(names)
	if !slices.Equal(d.Names(), []string{"a", "b"}) {
		t.Errorf("Names: %q", d.Names())
	}
}

// R5: an empty list, or none.
func TestEmptyOrNone(t *testing.T) {
	d, e := prepared(t), prepared(t)
	ok(t, "Append", d.Append("c", nil))
	ok(t, "Append", e.Append("c", []byte{}))
	d.Crash(api.Keep{Names: 9})
	e.Crash(api.Keep{Names: 9, Tails: []int{}})
	if tell(d) != tell(e) {
		t.Errorf("%s and %s", tell(d), tell(e))
	}
}

// Di5: what is synced under a safe name is there behind any crash.
func TestSafeStays(t *testing.T) {
	for names := -1; names < 6; names++ {
		for tail := -1; tail < 4; tail++ {
			d := prepared(t)
			ok(t, "Sync", d.Sync("a"))
			ok(t, "Append", d.Append("a", []byte{9}))
			ok(t, "Rename", d.Rename("b", "c"))
			ok(t, "Append", d.Append("d", []byte{9}))
			ok(t, "Remove", d.Remove("c"))
			d.Crash(api.Keep{Names: names, Tails: []int{tail, tail}})
			b, err := d.Read("a", 0, 3)
			if err != api.OK || !bytes.Equal(b, []byte{1, 2, 3}) {
				t.Errorf("Names %d, Tails %d: %v, %d", names, tail, b, err)
			}
		}
	}
}

func BenchmarkAppendSync(b *testing.B) {
	d := newDisk(b, mostDisk)
	bytes := make([]byte, 64)
	for b.Loop() {
		if d.Append("a", bytes) != api.OK {
			d.Cut("a", 0)
		}
		d.Sync("a")
	}
}
