package edit

import (
	"bytes"
	"slices"
	"strings"
	"testing"

	"garner/api"
)

// spoil turns all that can be reached from b.
func spoil(b []byte) {
	for i := range b[:cap(b)] {
		b[:cap(b)][i] ^= 255
	}
}

// spoilEdits turns all that can be reached from l.
func spoilEdits(l []api.Edit) {
	for i := range l[:cap(l)] {
		l[:cap(l)][i] = api.Edit{Kind: -1, Tab: api.Tab{First: "spoilt"}}
	}
}

// R3: no call writes to what it is handed, nor behind its end.
func TestNothingIsWritten(t *testing.T) {
	r := newSource()
	for range 1000 {
		all := someEdits(r, 12)
		if r.Intn(3) == 0 {
			all[r.Intn(12)].Term = -1
		}
		kept := slices.Clone(all)
		part := all[:1+r.Intn(12)]
		Check(part[0])
		Put(part)
		Same(part, all)
		Same(part, kept[:len(part)])
		if !plainSame(all, kept) {
			t.Fatal("a call wrote to its edits, or behind them")
		}
		b := append(plainBytes(someEdits(r, 1+r.Intn(3))), mixedBytes(r, 30)...)
		keptBytes := slices.Clone(b)
		Get(b[:len(b)-30])
		Get(b)
		Get(b[:r.Intn(len(b))])
		if !bytes.Equal(b, keptBytes) {
			t.Fatal("Get wrote to its bytes")
		}
	}
}

// R3: what Put tells is no part of what was handed in, nor of another answer.
func TestPutIsNew(t *testing.T) {
	r := newSource()
	for range 500 {
		l := someEdits(r, 1+r.Intn(12))
		kept := slices.Clone(l)
		first, _ := Put(l)
		second, _ := Put(l)
		spoil(first)
		if !plainSame(l, kept) {
			t.Fatal("what Put tells is a part of its edits")
		}
		spoilEdits(l)
		if !bytes.Equal(second, plainBytes(kept)) {
			t.Fatal("what Put tells shares memory")
		}
	}
}

// R3: what Get tells is no part of its bytes, nor of another answer.
func TestGetIsNew(t *testing.T) {
	r := newSource()
	for range 500 {
		l := someEdits(r, 1+r.Intn(12))
		b := plainBytes(l)
		kept := slices.Clone(b)
		first, _ := Get(b)
		second, _ := Get(b)
		spoilEdits(first)
		if !bytes.Equal(b, kept) {
			t.Fatal("what Get tells is a part of its bytes")
		}
		spoil(b)
		if !plainSame(second, l) {
			t.Fatal("what Get tells shares memory with its bytes, or with another answer")
		}
	}
}

// R4: the same answers, again and again, whatever the memory around the bytes is.
func TestSameAgain(t *testing.T) {
	r := newSource()
	for range 3000 {
		b := plainBytes(someEdits(r, 1+r.Intn(3)))
		if r.Intn(2) == 0 {
			b[r.Intn(len(b))] ^= 1 << r.Intn(8)
		}
		long := append(slices.Clone(b), mixedBytes(r, 20)...)
		l, err := Get(long[:len(b)])
		Get(mixedBytes(r, 12))
		l2, err2 := Get(slices.Clip(slices.Clone(b)))
		if err != err2 || !plainSame(l, l2) {
			t.Fatalf("Get(%v) answers otherwise", b)
		}
		if err != api.OK {
			continue
		}
		put1, err := Put(l)
		put2, err2 := Put(append(slices.Clone(l), api.Edit{})[:len(l)])
		if err != err2 || !bytes.Equal(put1, put2) {
			t.Fatalf("Put(%v) answers otherwise", l)
		}
	}
}

// R1, R5: the zero edit may not be; no list, or an empty one, are the same.
func TestZeroValues(t *testing.T) {
	checkEdit(t, api.Edit{}, api.ErrArg)
	for _, l := range [][]api.Edit{nil, {}, make([]api.Edit, 0, 9)} {
		checkPut(t, l, api.ErrArg)
		if !Same(l, nil) || !Same(nil, l) || Same(l, make([]api.Edit, 1)) {
			t.Errorf("Same of no list, and %v", l)
		}
	}
	for _, b := range [][]byte{nil, {}, make([]byte, 0, 9)} {
		checkNone(t, b)
	}
}

// P1: keys of any length are refused, and calls end.
func TestGreatArguments(t *testing.T) {
	huge := strings.Repeat("k", 1<<20)
	checkEdit(t, api.Edit{Kind: kindTab, Tab: api.Tab{Num: 1, First: huge, Last: huge}}, api.ErrArg)
	checkEdit(t, api.Edit{Kind: kindSeg, Num: 1, Tab: api.Tab{First: huge}}, api.ErrArg)
	checkPut(t, make([]api.Edit, 1<<16), api.ErrArg)
	checkNone(t, make([]byte, 1<<20))
	checkNone(t, bytes.Repeat([]byte{1}, 1<<20))
	checkNone(t, bytes.Repeat([]byte{128}, 1<<20))
	checkNone(t, bytes.Repeat([]byte{4}, 1<<20))
}

func BenchmarkPut(b *testing.B) {
	l := someEdits(newSource(), mostEdits)
	for b.Loop() {
		Put(l)
	}
}

func BenchmarkGet(b *testing.B) {
	list := plainBytes(someEdits(newSource(), mostEdits))
	for b.Loop() {
		Get(list)
	}
}
