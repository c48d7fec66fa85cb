package manifest

import (
	"garner/api"
	"garner/disk"
	"garner/name"
)

// act is an act of a disk that is yet to be done.
type act func() api.Errno

// one is an act that is told one thing.
func one[A any](do func(A) api.Errno, a A) act {
	return func() api.Errno { return do(a) }
}

// two is an act that is told two things.
func two[A, B any](do func(A, B) api.Errno, a A, b B) act {
	return func() api.Errno { return do(a, b) }
}

// doAll does acts up to the first one that is refused: how many were done, and
// what that one was refused with.
func doAll(l []act) (int, api.Errno) {
	for i, do := range l {
		if err := do(); err != api.OK {
			return i, err
		}
	}
	return len(l), api.OK
}

// read is the bytes of the roster's file; none, if there is no such file.
func read(d *disk.Disk) ([]byte, api.Errno) {
	n, there := d.Size(rosterName())
	if !there {
		return nil, api.OK
	}
	return d.Read(rosterName(), 0, n)
}

// mending is the acts by which a disk has, safe, just what its manifest tells:
// right is how many bytes of the roster's file do.
func mending(d *disk.Disk, right int) []act {
	var acts []act
	if _, there := d.Size(newName()); there {
		acts = append(acts, one(d.Remove, newName()))
	}
	n, there := d.Size(rosterName())
	if n > right {
		acts = append(acts, two(d.Cut, rosterName(), right))
	}
	if there {
		// A turn may have ended ahead of its Sync; what is told from now on must stay.
		acts = append(acts, one(d.Sync, rosterName()))
	}
	if len(acts) > 0 {
		acts = append(acts, d.SyncNames)
	}
	return acts
}

func rosterName() string { return nameOf(api.FileRoster) }

func newName() string { return nameOf(api.FileNew) }

// nameOf is the name of a file of a kind that has no numbers.
func nameOf(kind int) string {
	s, _ := name.Of(api.File{Kind: kind})
	return s
}
