package edit

import (
	"garner/api"
	"garner/varint"
)

const (
	// rowNumbers is how many numbers an edit has beside those of its Tab.
	rowNumbers = 6
	// tabNumbers is how many numbers a Tab has.
	tabNumbers = 3
)

// row is an edit's numbers beside those of its Tab, in the order of its bytes.
func row(e api.Edit) [rowNumbers]int {
	return [rowNumbers]int{e.Num, e.Index, e.Term, e.Hard.Term, e.Hard.Vote, e.Hard.Commit}
}

// ofRow is the edit whose row it is.
func ofRow(kind int, r [rowNumbers]int) api.Edit {
	hard := api.Hard{Term: r[3], Vote: r[4], Commit: r[5]}
	return api.Edit{Kind: kind, Num: r[0], Index: r[1], Term: r[2], Hard: hard}
}

// named tells from which place of the row on, and up to which, the numbers
// stand that are named of a Kind: of none do they stand apart.
func named(kind int) (int, int) {
	switch kind {
	case api.EditSeg, api.EditUntab:
		return 0, 1
	case api.EditMove:
		return 0, 2
	case api.EditUnmove, api.EditUnstill, api.EditMark:
		return 1, 2
	case api.EditStill:
		return 0, 3
	case api.EditBase:
		return 0, rowNumbers
	}
	return 0, 0
}

// bare is an edit with nothing but what is named of its Kind.
func bare(e api.Edit) api.Edit {
	var r [rowNumbers]int
	all := row(e)
	from, to := named(e.Kind)
	copy(r[from:to], all[from:to])
	x := ofRow(e.Kind, r)
	if e.Kind == api.EditTab {
		x.Tab = e.Tab
	}
	return x
}

// bytesOf is the bytes of an edit that may be.
func bytesOf(e api.Edit) []byte {
	b := []byte{byte(e.Kind)}
	if e.Kind == api.EditTab {
		return append(b, tabBytes(e.Tab)...)
	}
	r := row(e)
	from, to := named(e.Kind)
	for _, n := range r[from:to] {
		b = append(b, varint.Put(uint64(n))...)
	}
	return b
}

func tabBytes(x api.Tab) []byte {
	b := varint.Put(uint64(x.Num), uint64(x.Level), uint64(x.Size))
	b = append(b, keyBytes(x.First)...)
	return append(b, keyBytes(x.Last)...)
}

func keyBytes(s string) []byte {
	return append(varint.Put(uint64(len(s))), s...)
}

// getEdit is the edit that bytes begin with, and how many bytes it has.
// Whether it may be is left for Check to ask.
func getEdit(b []byte) (api.Edit, int, api.Errno) {
	if len(b) == 0 {
		return api.Edit{}, 0, api.ErrText
	}
	kind := int(b[0])
	if kind == api.EditTab {
		x, size, err := getTab(b[1:])
		return api.Edit{Kind: kind, Tab: x}, 1 + size, err
	}
	from, to := named(kind)
	l, size, err := getNumbers(b[1:], to-from)
	var r [rowNumbers]int
	copy(r[from:to], l)
	return ofRow(kind, r), 1 + size, err
}

// getTab is the Tab that bytes begin with, and how many bytes it has.
func getTab(b []byte) (api.Tab, int, api.Errno) {
	l, at, err := getNumbers(b, tabNumbers)
	if err != api.OK {
		return api.Tab{}, 0, err
	}
	first, size, err := getKey(b[at:])
	if err != api.OK {
		return api.Tab{}, 0, err
	}
	at += size
	last, size, err := getKey(b[at:])
	if err != api.OK {
		return api.Tab{}, 0, err
	}
	return api.Tab{Num: l[0], Level: l[1], Size: l[2], First: first, Last: last}, at + size, api.OK
}

// getNumbers is the first n numbers, and how many bytes they have.
func getNumbers(b []byte, n int) ([]int, int, api.Errno) {
	l, size, err := varint.All(b, n)
	if err != api.OK {
		return nil, 0, err
	}
	r := make([]int, n)
	for i, u := range l {
		// No number of an edit is greater, and this one might wrap round as an int.
		if u > api.MaxCount {
			return nil, 0, api.ErrText
		}
		r[i] = int(u)
	}
	return r, size, api.OK
}

// getKey is a key, and how many bytes it and its number have.
func getKey(b []byte) (string, int, api.Errno) {
	n, head, err := varint.Get(b)
	// Held against the limit as it is: a greater number might wrap round as an int.
	if err != api.OK || n > api.MaxKey || len(b)-head < int(n) {
		return "", 0, api.ErrText
	}
	end := head + int(n)
	return string(b[head:end]), end, api.OK
}
