package edit

import (
	"bytes"
	"encoding/binary"
	"math"
	"math/rand"
	"slices"
	"strings"
	"testing"

	"garner/api"
)

// Ed1: no bytes, and each beginning of edits' bytes.
func TestGetOfBeginnings(t *testing.T) {
	checkNone(t, nil)
	checkNone(t, []byte{})
	r := newSource()
	var list [][]api.Edit
	for kind := kindSeg; kind <= kindMark; kind++ {
		list = append(list, []api.Edit{whole(kind)}, someEdits(r, kind))
	}
	list = append(list, someEdits(r, 200))
	for range 200 {
		list = append(list, someEdits(r, 1+r.Intn(9)))
	}
	for _, l := range list {
		b := plainBytes(l)
		checkGet(t, b, l)
		for end := range b {
			checkNone(t, b[:end])
			checkNone(t, slices.Clip(slices.Clone(b[:end])))
		}
	}
}

// Ed1, Ed2: bytes behind edits' bytes, also such as are an edit's, or edits'.
func TestGetOfMoreBytes(t *testing.T) {
	r := newSource()
	for range 500 {
		l := someEdits(r, 1+r.Intn(12))
		b := plainBytes(l)
		for _, behind := range [][]byte{{0}, {1}, {128}, {255}, {0, 0}, oneBytes(l[0]), b, someBytes(r, 1+r.Intn(40)), make([]byte, 5000)} {
			checkNone(t, slices.Concat(b, behind))
		}
	}
}

// Ed1, Ed2: any one byte turned, to any other: those edits are got no more.
func TestGetOfATurnedByte(t *testing.T) {
	r := newSource()
	for range 20 {
		l := someEdits(r, 1+r.Intn(4))
		b := plainBytes(l)
		for i, was := range b {
			for x := range 256 {
				b[i] = byte(x)
				want, wantErr := plainGet(b)
				got, err := Get(b)
				if err != wantErr || !plainSame(got, want) {
					t.Fatalf("Get(%v) = %v, %d; want %v, %d", b, got, err, want, wantErr)
				}
				if plainSame(got, l) != (byte(x) == was) {
					t.Fatalf("Get(%v) = %v", b, got)
				}
			}
			b[i] = was
		}
	}
}

// wrongNumbers are no number's bytes, whatever stands behind: longer than they need be, or of more than 64 bits.
func wrongNumbers() [][]byte {
	return [][]byte{
		{128, 0},
		{129, 0},
		{130, 0},
		{129, 128, 0},
		{128, 128, 128, 128, 0},
		append(bytes.Repeat([]byte{128}, 9), 2),
		append(bytes.Repeat([]byte{129}, 9), 2),
		append(bytes.Repeat([]byte{128}, 10), 1),
		bytes.Repeat([]byte{255}, 30),
	}
}

// great are numbers that are beyond those that count; taken as fewer bits, some would not be.
func great() [][]byte {
	var l [][]byte
	for _, u := range []uint64{mostCount + 1, mostCount + 2, 1 << 32, 1<<32 + 1, 1<<32 + 5, 1<<63 - 1, 1 << 63, 1<<63 + 1, math.MaxUint64 - 3, math.MaxUint64} {
		l = append(l, binary.AppendUvarint(nil, u))
	}
	return l
}

// places are an edit's bytes, cut to one number each: what is ahead of it, and what is behind.
func places(e api.Edit) [][2][]byte {
	b := oneBytes(e)
	var l [][2][]byte
	for i := 1; i < len(b); {
		_, n := binary.Uvarint(b[i:])
		l = append(l, [2][]byte{b[:i], b[i+n:]})
		i += n
		if e.Kind == kindTab && len(l) == 4 {
			i += len(e.Tab.First)
		}
		if e.Kind == kindTab && len(l) == 5 {
			break
		}
	}
	return l
}

// Ed1: numbers that are none, or too great, in each place of each kind.
func TestGetOfWrongNumbers(t *testing.T) {
	wrong := append(wrongNumbers(), great()...)
	for kind := kindSeg; kind <= kindMark; kind++ {
		e := whole(kind)
		for _, place := range places(e) {
			for _, bad := range wrong {
				one := slices.Concat(place[0], bad, place[1])
				checkNone(t, slices.Concat([]byte{1}, one))
				checkNone(t, slices.Concat([]byte{1}, one, make([]byte, 100)))
				checkNone(t, slices.Concat([]byte{2}, one, oneBytes(e)))
				checkNone(t, slices.Concat([]byte{2}, oneBytes(e), one))
			}
			for _, endless := range [][]byte{{128}, {255, 255}} {
				checkNone(t, slices.Concat([]byte{1}, place[0], endless))
				checkNone(t, slices.Concat([]byte{2}, oneBytes(e), place[0], endless))
			}
		}
		for _, bad := range wrong {
			checkNone(t, slices.Concat(bad, oneBytes(e)))
			checkNone(t, slices.Concat(bad, oneBytes(e), make([]byte, 100)))
		}
	}
}

// Ed1: a number of edits that is 0, or more than there can be, or not how many follow.
func TestGetOfWrongNumbersOfEdits(t *testing.T) {
	r := newSource()
	for n := uint64(1); n <= 12; n++ {
		l := someEdits(r, int(n))
		checkGet(t, counted(n, l...), l)
		for other := uint64(0); other <= 14; other++ {
			if other != n {
				checkNone(t, counted(other, l...))
			}
		}
	}
	checkNone(t, []byte{0})
	checkNone(t, []byte{0, 1, 3})
	l := someEdits(r, 200)
	checkGet(t, counted(200, l...), l)
	checkNone(t, counted(199, l...))
	checkNone(t, counted(201, l...))
	checkNone(t, counted(201, someEdits(r, 201)...))
	checkNone(t, counted(256, someEdits(r, 256)...))
	checkNone(t, counted(456, someEdits(r, 456)...))
	for _, n := range []uint64{201, 255, 256, 257, 1000, 1 << 16, mostCount, 1 << 31, 1 << 32, 1<<32 + 1, 1<<63 - 1, 1 << 63, 1<<63 + 1, math.MaxUint64} {
		checkNone(t, counted(n, l[0]))
		checkNone(t, counted(n, l...))
		checkNone(t, counted(n))
	}
}

// Ed1: a kind that there is not, alone and among others.
func TestGetOfNoKinds(t *testing.T) {
	for kind := range 256 {
		if kind >= kindSeg && kind <= kindMark {
			continue
		}
		for real := kindSeg; real <= kindMark; real++ {
			b := oneBytes(whole(real))
			b[0] = byte(kind)
			checkNone(t, slices.Concat([]byte{1}, b))
			checkNone(t, slices.Concat([]byte{2}, b, oneBytes(whole(real))))
			checkNone(t, slices.Concat([]byte{2}, oneBytes(whole(real)), b))
		}
		checkNone(t, []byte{1, byte(kind)})
		checkNone(t, []byte{1, byte(kind), 3})
		checkNone(t, []byte{2, 1, 3, byte(kind)})
		checkNone(t, []byte{2, byte(kind), 1, 3})
	}
}

// Ed1: counts of First and of Last beyond what there is, and beyond what a key has.
func TestGetOfWrongCountsOfKeys(t *testing.T) {
	head := []byte{1, 4, 6, 0, 0}
	checkGet(t, slices.Concat(head, []byte{1, 'a', 1, 'b'}), []api.Edit{{Kind: kindTab, Tab: api.Tab{Num: 6, First: "a", Last: "b"}}})
	for _, n := range []uint64{0, 2, 3, 4, 5, 63, 64, 65, 127, 128, 256, 257, mostCount, 1 << 32, 1<<32 + 1, 1<<63 - 1, 1 << 63, 1<<63 + 1, math.MaxUint64} {
		count := binary.AppendUvarint(nil, n)
		checkNone(t, slices.Concat(head, count, []byte{'a', 1, 'b'}))
		checkNone(t, slices.Concat(head, []byte{1, 'a'}, count, []byte{'b'}))
		checkNone(t, slices.Concat(head, count))
		checkNone(t, slices.Concat(head, []byte{1, 'a'}, count))
	}
	for n := 1; n <= 70; n++ {
		x := api.Edit{Kind: kindTab, Tab: api.Tab{Num: 6, First: strings.Repeat("k", n), Last: strings.Repeat("k", n)}}
		if n <= 64 {
			checkGet(t, counted(1, x), []api.Edit{x})
		} else {
			checkNone(t, counted(1, x))
		}
		x.Tab.First = "a"
		if n <= 64 {
			checkGet(t, counted(1, x), []api.Edit{x})
		} else {
			checkNone(t, counted(1, x))
		}
	}
}

// Ed1: bytes of edits that may not be, alone and among others.
func TestGetOfEditsThatMayNotBe(t *testing.T) {
	tab := func(turn func(*api.Tab)) api.Edit {
		e := whole(kindTab)
		turn(&e.Tab)
		return e
	}
	list := []api.Edit{
		{Kind: kindBase, Num: 1, Index: 1},
		{Kind: kindBase, Num: 1, Term: 1},
		{Kind: kindBase, Index: 1, Term: 1},
		{Kind: kindMove, Num: 1},
		tab(func(x *api.Tab) { x.Num = 0 }),
		tab(func(x *api.Tab) { x.Level = 5 }),
		tab(func(x *api.Tab) { x.Level = 256 }),
		tab(func(x *api.Tab) { x.Size = 1<<30 + 1 }),
		tab(func(x *api.Tab) { x.Size = mostCount }),
		tab(func(x *api.Tab) { x.First = "" }),
		tab(func(x *api.Tab) { x.Last = "" }),
		tab(func(x *api.Tab) { x.First = "c" }),
	}
	for kind := kindSeg; kind <= kindMark; kind++ {
		list = append(list, api.Edit{Kind: kind})
	}
	for _, e := range list {
		if plainMayBe(e) {
			t.Fatalf("the words say otherwise of %v", e)
		}
		checkNone(t, counted(1, e))
		checkNone(t, counted(3, e, whole(kindSeg), whole(kindBase)))
		checkNone(t, counted(3, whole(kindSeg), e, whole(kindBase)))
		checkNone(t, counted(3, whole(kindSeg), whole(kindBase), e))
	}
}

// mixedBytes are such that many of them begin as edits' bytes do.
func mixedBytes(r *rand.Rand, n int) []byte {
	palette := []byte{0, 0, 1, 1, 1, 2, 2, 3, 4, 5, 6, 7, 8, 9, 10, 64, 65, 127, 128, 200, 255}
	b := someBytes(r, n)
	for i := range b {
		if r.Intn(5) > 0 {
			b[i] = palette[r.Intn(len(palette))]
		}
	}
	return b
}

// Ed1, Ed2: Get as the words say, of mixed bytes, and of edits' bytes that are spoilt.
func TestGetAsTheWordsSay(t *testing.T) {
	r := newSource()
	edits, others := 0, 0
	check := func(b []byte) {
		want, wantErr := plainGet(b)
		l, err := Get(b)
		if err != wantErr || !plainSame(l, want) {
			t.Fatalf("Get(%v) = %v, %d; want %v, %d", b, l, err, want, wantErr)
		}
		if err == api.OK {
			edits++
		} else {
			others++
		}
	}
	for range 40000 {
		check(mixedBytes(r, r.Intn(16)))
		b := plainBytes(someEdits(r, 1+r.Intn(4)))
		check(b)
		at := r.Intn(len(b))
		check(slices.Concat(b[:at], b[at+1:]))
		check(slices.Concat(b[:at], mixedBytes(r, 1+r.Intn(2)), b[at:]))
		b[at] ^= 1 << r.Intn(8)
		check(b)
	}
	if edits < 50000 || others < 50000 {
		t.Errorf("only %d edits, and %d others, came up", edits, others)
	}
}

// Ed1, Ed2: Get of all bytes up to six, made of those that matter most; what is got is put as just those bytes.
func TestGetOfAllShortBytes(t *testing.T) {
	few := []byte{0, 1, 2, 3, 4, 6, 8, 9, 128}
	found := 0
	var grow func(b []byte)
	grow = func(b []byte) {
		want, wantErr := plainGet(b)
		l, err := Get(b)
		if err != wantErr || !plainSame(l, want) {
			t.Fatalf("Get(%v) = %v, %d; want %v, %d", b, l, err, want, wantErr)
		}
		if err == api.OK {
			found++
			if again, err := Put(l); err != api.OK || !bytes.Equal(again, b) {
				t.Fatalf("%v are got as %v, and these are put as %v, %d", b, l, again, err)
			}
		}
		if len(b) == 6 {
			return
		}
		for _, x := range few {
			grow(append(b, x))
		}
	}
	grow(make([]byte, 0, 6))
	if found < 100 {
		t.Errorf("only %d edits came up", found)
	}
}

// Ed2: what is put is got.
func TestPutIsGot(t *testing.T) {
	r := newSource()
	for i := range 4000 {
		l := someEdits(r, 1+i%mostEdits)
		b, err := Put(l)
		if err != api.OK {
			t.Fatalf("Put(%v) = %d", l, err)
		}
		got, err := Get(b)
		if err != api.OK || !Same(got, l) || !plainSame(got, l) {
			t.Fatalf("%v is got as %v, %d", l, got, err)
		}
		for _, e := range got {
			if Check(e) != api.OK {
				t.Fatalf("%v is got, and may not be", e)
			}
		}
	}
}

// Ed2: edits that are unlike have bytes that are unlike, and are not the beginning of one another.
func TestNoEditsAreOthersBeginning(t *testing.T) {
	r := newSource()
	var all [][]byte
	for range 5000 {
		l := someEdits(r, 1+r.Intn(2))
		for i := range l {
			for _, part := range "NITtvc" {
				*at(&l[i], part) = min(*at(&l[i], part), 1)
			}
			if l[i].Kind == kindTab {
				l[i].Tab = api.Tab{Num: 1, Size: r.Intn(2), First: "k", Last: "kk"[:1+r.Intn(2)]}
			}
		}
		b, err := Put(l)
		if err != api.OK {
			t.Fatalf("Put(%v) = %d", l, err)
		}
		all = append(all, b)
	}
	slices.SortFunc(all, bytes.Compare)
	for i := 1; i < len(all); i++ {
		if bytes.HasPrefix(all[i], all[i-1]) && !bytes.Equal(all[i], all[i-1]) {
			t.Fatalf("%v begins with %v", all[i], all[i-1])
		}
	}
}

// P1: Get ends, and does not panic, at bytes of any kind; what it answers beside an error is nothing.
func FuzzGet(f *testing.F) {
	r := newSource()
	for n := range 16 {
		f.Add(plainBytes(someEdits(r, n+1)))
	}
	f.Fuzz(func(t *testing.T, b []byte) {
		want, wantErr := plainGet(b)
		l, err := Get(b)
		if err != wantErr || !plainSame(l, want) {
			t.Fatalf("Get(%v) = %v, %d; want %v, %d", b, l, err, want, wantErr)
		}
		if err != api.OK && l != nil {
			t.Fatalf("Get(%v) = %v beside an error", b, l)
		}
	})
}
