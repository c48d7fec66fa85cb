package manifest

import (
	"slices"

	"garner/api"
	"garner/edit"
	"garner/frame"
	"garner/roster"
)

const (
	// kindEdits is the Kind of frames that have edits.
	kindEdits = 1
	// mostEdits is how many edits a frame has at most where a file is renewed.
	mostEdits = 100
)

// told is what a file tells: a roster, and how many frames, and bytes, tell it.
type told struct {
	roster api.Roster
	frames int
	size   int
}

// frameOf is the bytes of a frame of edits.
func frameOf(l []api.Edit) ([]byte, api.Errno) {
	body, err := edit.Put(l)
	if err != api.OK {
		return nil, err
	}
	return frame.Put(api.Frame{Kind: kindEdits, Body: body})
}

// framesOf is the bytes of the frames that make a roster, and how many they are.
func framesOf(r api.Roster) ([]byte, int, api.Errno) {
	parts := partsFor(r)
	var all []byte
	for _, part := range parts {
		b, err := frameOf(part)
		if err != api.OK {
			return nil, 0, err
		}
		all = append(all, b...)
	}
	return all, len(parts), api.OK
}

// tell is what a file's bytes tell ahead of the first frame that is wrong.
func tell(b []byte) told {
	parts, sizes := partsOf(b)
	r, frames := begin(parts)
	for _, part := range parts[frames:] {
		next, err := roster.Apply(r, part...)
		if err != api.OK {
			break
		}
		r = next
		frames++
	}
	size := 0
	for _, n := range sizes[:frames] {
		size += n
	}
	return told{roster: r, frames: frames, size: size}
}

// partsOf is the edits of the frames that bytes begin with, frame by frame, as
// far as frames have such, and how many bytes each frame has.
func partsOf(b []byte) ([][]api.Edit, []int) {
	var parts [][]api.Edit
	var sizes []int
	frames, _, _ := frame.Scan(b)
	for _, f := range frames {
		l, err := edit.Get(f.Body)
		if f.Kind != kindEdits || err != api.OK {
			break
		}
		parts = append(parts, l)
		sizes = append(sizes, frame.Size(len(f.Body)))
	}
	return parts, sizes
}

// begin is the roster of a file's first two frames, and that they are two, if
// they are just what a renewed file has of it; else that at first, of none. A
// renewed file tells all segments, the moved ones too, ahead of all moves, so
// that behind its first frame there may be more segments than a roster has:
// what comes of that frame alone may not be. Two frames have room for all moves.
func begin(parts [][]api.Edit) (api.Roster, int) {
	if len(parts) < 2 {
		return roster.First(), 0
	}
	first := parts[:2]
	r, err := roster.Apply(roster.First(), slices.Concat(first...)...)
	if err != api.OK || !slices.EqualFunc(first, partsFor(r), edit.Same) {
		return roster.First(), 0
	}
	return r, len(first)
}

// partsFor is the edits that make a roster, frame by frame.
func partsFor(r api.Roster) [][]api.Edit {
	var parts [][]api.Edit
	for part := range slices.Chunk(roster.Edits(r), mostEdits) {
		parts = append(parts, part)
	}
	return parts
}
