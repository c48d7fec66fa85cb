package merge

import (
	"bytes"
	"slices"
	"strings"
	"testing"

	"garner/api"
)

// Mg2: each item once, in order, Dead or not, and from which list it is.
func TestWalkKnown(t *testing.T) {
	w := mustBegin(t, rangeLists())
	for _, want := range []told{
		{dead("a"), 0}, {near("c", 1), 0}, {near("e", 3), 2}, {near("g", 2), 1}, {near("i", 1), 0}, {near("k", 3), 2}, {dead("m"), 1}, {dead("n"), 0},
	} {
		checkNext(t, w, want)
	}
	checkEnd(t, w)
	// Lists that are empty count among the others.
	w = mustBegin(t, [][]api.Item{nil, list("b", 1), {}, list("ab", 2), nil})
	checkNext(t, w, told{near("a", 2), 3})
	checkNext(t, w, told{near("b", 1), 1})
	checkEnd(t, w)
}

// Mg2: the last of as many lists as there may be, and every other.
func TestWalkTellsEachList(t *testing.T) {
	for n := 1; n <= mostLists; n++ {
		l := make([][]api.Item, n)
		for i := range l {
			// The list's own key, and one that it shares with all newer ones.
			l[i] = []api.Item{near(numbered(i)+"a", byte(i))}
			for k := i; k < n; k++ {
				if k > i {
					l[i] = append(l[i], near(numbered(k)+"a", byte(i)))
				}
				l[i] = append(l[i], dead(numbered(k)+"b"))
			}
		}
		w := mustBegin(t, l)
		for i := range n {
			checkNext(t, w, told{near(numbered(i)+"a", 0), 0})
			checkNext(t, w, told{dead(numbered(i) + "b"), 0})
		}
		checkEnd(t, w)
		slices.Reverse(l)
		w = mustBegin(t, l)
		for i := range n {
			from := n - 1 - i
			checkNext(t, w, told{near(numbered(i)+"a", byte(i)), from})
			checkNext(t, w, told{dead(numbered(i) + "b"), from})
		}
		checkEnd(t, w)
	}
}

// Mg2: several walks over the same lists, each by itself, and whatever else is asked in between.
func TestWalksByThemselves(t *testing.T) {
	r := newSource()
	for range 200 {
		l := someLists(r, 1+r.Intn(10))
		want := plainMerged(l)
		walks := make([]*Walk, 4)
		done := make([]int, len(walks))
		for i := range walks {
			walks[i] = mustBegin(t, l)
		}
		for range 4*len(want) + 20 {
			i := r.Intn(len(walks))
			if done[i] == len(want) {
				checkEnd(t, walks[i])
				walks[i], done[i] = mustBegin(t, l), 0
				continue
			}
			checkNext(t, walks[i], want[done[i]])
			done[i]++
			if r.Intn(10) == 0 {
				checkAll(t, l)
				checkGet(t, l, want[0].item.Key)
			}
		}
	}
}

// R1: a Walk that Begin did not give: the zero item, 0, false, always.
func TestNobodysWalk(t *testing.T) {
	refused, _ := Begin(make([][]api.Item, mostLists+1))
	other, _ := Begin([][]api.Item{list("ba", 1)})
	var zero Walk
	for what, w := range map[string]*Walk{"nil": nil, "zero": &zero, "new": new(Walk), "literal": {}, "refused": refused, "not in order": other} {
		for range 5 {
			if x, from, ok := w.Next(); ok || from != 0 || !isZero(x) {
				t.Errorf("%s: %v, %d, %v", what, x, from, ok)
			}
		}
	}
}

// A copy of a walk goes on by itself from where it was.
func TestCopiedWalk(t *testing.T) {
	l := rangeLists()
	want := plainMerged(l)
	for at := range len(want) + 1 {
		first := mustBegin(t, l)
		for i := range at {
			checkNext(t, first, want[i])
		}
		second := *first
		for _, w := range []*Walk{first, &second} {
			for _, x := range want[at:] {
				y, from, ok := w.Next()
				if !ok || !plainSameTold(told{y, from}, x) {
					t.Fatalf("Next: %v, %d, %v; want %v", y, from, ok, x)
				}
				spoil(y.Cell.Bytes)
			}
			checkEnd(t, w)
		}
	}
}

// spoil turns all that can be reached from b.
func spoil(b []byte) {
	for i := range b[:cap(b)] {
		b[:cap(b)][i] ^= 255
	}
}

// spoilItems turns all that can be reached from l.
func spoilItems(l []api.Item) {
	for i := range l {
		spoil(l[i].Cell.Bytes)
	}
	whole := l[:cap(l)]
	for i := range whole {
		whole[i] = dead("spoilt")
	}
}

func spoilLists(l [][]api.Item) {
	for i := range l {
		spoilItems(l[i])
		l[i] = nil
	}
}

// deepCopy shares no memory with l.
func deepCopy(l [][]api.Item) [][]api.Item {
	l = slices.Clone(l)
	for i := range l {
		l[i] = slices.Clone(l[i])
		for k := range l[i] {
			l[i][k].Cell.Bytes = slices.Clone(l[i][k].Cell.Bytes)
		}
	}
	return l
}

func sameLists(a, b [][]api.Item) bool { return slices.EqualFunc(a, b, plainSame) }

// roomy is lists that stand in longer memory, with items behind them, and so do their cells' bytes.
func roomy(l [][]api.Item) [][]api.Item {
	l = append(deepCopy(l), list("behind", 9), nil)
	for i := range l {
		l[i] = append(l[i], near("behind", 1, 2), dead("behind"))
		for k, x := range l[i] {
			l[i][k].Cell.Bytes = append(x.Cell.Bytes, 1, 2, 3)[:len(x.Cell.Bytes)]
		}
		l[i] = l[i][:len(l[i])-2]
	}
	return l[:len(l)-2]
}

// whole is lists with all that stands behind them in their memory.
func whole(l [][]api.Item) [][]api.Item {
	l = slices.Clone(l[:len(l)+2])
	for i := range l {
		l[i] = slices.Clone(l[i][:len(l[i])+2])
		for k, x := range l[i] {
			l[i][k].Cell.Bytes = slices.Clone(x.Cell.Bytes[:cap(x.Cell.Bytes)])
		}
	}
	return l
}

// R3: no call writes to what it is handed, nor behind it; also not to what it refuses.
func TestHandedStays(t *testing.T) {
	r := newSource()
	for range 500 {
		l := roomy(someLists(r, 1+r.Intn(12)))
		if r.Intn(4) == 0 {
			turn(r.Intn, l[r.Intn(len(l))])
		}
		kept := whole(l)
		All(l, false)
		all, _ := All(l, true)
		some, _ := Scan(l, someKey(r), someKey(r), r.Intn(20))
		Scan(l, "", "", 1000)
		for _, key := range append(firstKeys(l), someKey(r)) {
			x, _, _ := Get(l, key)
			spoil(x.Cell.Bytes)
		}
		w, _ := Begin(l)
		for x, _, ok := w.Next(); ok; x, _, ok = w.Next() {
			spoil(x.Cell.Bytes)
		}
		spoilItems(all)
		spoilItems(some)
		// Nor is what is put behind an answer.
		all, _ = All(l, false)
		spoilItems(append(all, dead("more")))
		if !sameLists(whole(l), kept) {
			t.Fatal("what was handed in was written to")
		}
	}
}

// R3: what is answered is new: it stays as it was, whatever is done to the lists, and to other answers.
func TestAnswersAreNew(t *testing.T) {
	r := newSource()
	for range 500 {
		l := roomy(someLists(r, 1+r.Intn(12)))
		kept := deepCopy(l)
		wantAll, wantScan := plainAll(kept, false), plainScan(kept, "", "", 1000)
		first, _ := All(l, false)
		second, _ := All(l, false)
		live, _ := All(l, true)
		scanned, _ := Scan(l, "", "", 1000)
		key := "none"
		if len(wantAll) > 0 {
			key = wantAll[r.Intn(len(wantAll))].Key
		}
		want, _ := plainGet(kept, key)
		x, _, _ := Get(l, key)
		y, _, _ := Get(l, key)
		spoilLists(l)
		spoilItems(second)
		spoil(y.Cell.Bytes)
		if !plainSame(first, wantAll) || !plainSame(live, wantScan) || !plainSame(scanned, wantScan) || !plainSameItem(x, want) {
			t.Fatal("answers share memory with the lists, or with each other")
		}
		spoilItems(live)
		if !plainSame(scanned, wantScan) {
			t.Fatal("two answers share memory")
		}
		for i := range first {
			spoil(first[i].Cell.Bytes)
			if !plainSame(first[i+1:], wantAll[i+1:]) {
				t.Fatal("lists of one answer share memory")
			}
		}
	}
}

// R3: lists of one answer share nothing, though what was handed in does.
func TestSharedBytesAreParted(t *testing.T) {
	b := []byte{1, 2, 3}
	l := [][]api.Item{{near("a", b...), near("b", b...)}, {near("c", b...), near("d", b...)}}
	for i := range l {
		for k := range l[i] {
			l[i][k].Cell.Bytes = b
		}
	}
	all, _ := All(l, false)
	spoil(all[0].Cell.Bytes)
	for _, x := range all[1:] {
		if !bytes.Equal(x.Cell.Bytes, []byte{1, 2, 3}) {
			t.Fatalf("%v", all)
		}
	}
	w := mustBegin(t, l)
	for range 4 {
		x, _, _ := w.Next()
		if !bytes.Equal(x.Cell.Bytes, []byte{1, 2, 3}) {
			t.Fatalf("%v", x)
		}
		spoil(x.Cell.Bytes)
	}
}

// R3: one list handed in as several is as if they were several.
func TestListTwice(t *testing.T) {
	one := []api.Item{near("a", 1), dead("b"), far("c", 3)}
	l := [][]api.Item{one, one[1:], one, one[:2]}
	checkLists(t, l)
	w := mustBegin(t, l)
	for _, x := range one {
		checkNext(t, w, told{x, 0})
	}
	checkEnd(t, w)
}

// Mg2, R3: a walk tells the same whatever is done, once it is begun, to the lists and to what it answered.
func TestWalkKeepsNothing(t *testing.T) {
	r := newSource()
	for range 500 {
		l := roomy(someLists(r, 1+r.Intn(12)))
		want := plainMerged(deepCopy(l))
		at := r.Intn(len(want) + 1)
		w := mustBegin(t, l)
		var answers []api.Item
		for i, x := range want {
			if i == at {
				spoilLists(l)
			}
			y, from, ok := w.Next()
			if !ok || !plainSameTold(told{y, from}, x) {
				t.Fatalf("Next: %v, %d, %v; want %v", y, from, ok, x)
			}
			if r.Intn(2) == 0 {
				spoil(y.Cell.Bytes)
			} else {
				answers = append(answers, y, x.item)
			}
		}
		checkEnd(t, w)
		for i := 0; i < len(answers); i += 2 {
			if !plainSameItem(answers[i], answers[i+1]) {
				t.Fatal("two answers share memory")
			}
		}
	}
}

// R4: the same answers, again and again, whatever the memory around is and whatever was asked in between.
func TestSameAgain(t *testing.T) {
	r := newSource()
	for range 300 {
		l := someLists(r, r.Intn(12))
		other := deepCopy(l)
		if len(l) > 0 {
			other = roomy(l)
		}
		lo, hi, most := someKey(r), someKey(r), r.Intn(20)
		for _, drop := range []bool{false, true} {
			a, err := All(l, drop)
			All(someLists(r, 3), drop)
			b, err2 := All(other, drop)
			if err != err2 || !plainSame(a, b) {
				t.Fatalf("All(%v): %v, then %v", l, a, b)
			}
		}
		a, err := Scan(l, lo, hi, most)
		b, err2 := Scan(other, strings.Clone(lo), strings.Clone(hi), most)
		x, found, _ := Get(l, lo)
		y, found2, _ := Get(other, strings.Clone(lo))
		if err != err2 || !plainSame(a, b) || found != found2 || !plainSameItem(x, y) {
			t.Fatalf("%v: %q, %q, %d: they answer otherwise", l, lo, hi, most)
		}
		checkWalk(t, l)
		checkWalk(t, other)
	}
}

// P1: long lists, many of them, merged within few moments, whichever way their keys stand.
func TestLongLists(t *testing.T) {
	const n = 2000
	for _, key := range []func(i, k int) int{
		func(i, k int) int { return k },                 // all keys shared
		func(i, k int) int { return k*mostLists + i },   // no key shared, all between each other
		func(i, k int) int { return i*n + k },           // one list behind the other
		func(i, k int) int { return k*(1+i%7) + i%3*n }, // some shared
	} {
		l := make([][]api.Item, mostLists)
		for i := range l {
			l[i] = make([]api.Item, n)
			for k := range l[i] {
				l[i][k] = near(numbered(key(i, k)), byte(i), byte(k))
				if (i+k)%5 == 0 {
					l[i][k] = dead(numbered(key(i, k)))
				}
			}
		}
		want := plainMerged(l)
		all, err := All(l, false)
		w := mustBegin(t, l)
		if err != api.OK || len(all) != len(want) {
			t.Fatalf("All: %d, %d; want %d", len(all), err, len(want))
		}
		for i, x := range want {
			if !plainSameItem(all[i], x.item) {
				t.Fatalf("All: %v; want %v", all[i], x.item)
			}
			checkNext(t, w, x)
		}
		checkEnd(t, w)
	}
}

func BenchmarkAll(b *testing.B) {
	l := make([][]api.Item, 64)
	for i := range l {
		for k := range 1000 {
			l[i] = append(l[i], near(numbered(k*(1+i%7)), byte(i)))
		}
	}
	for b.Loop() {
		All(l, true)
	}
}
