package roster

import (
	"slices"
	"testing"

	"garner/api"
)

// spoil turns all that can be reached from a roster.
func spoil(r api.Roster) {
	spoilList(r.Segs, -7)
	spoilList(r.Moves, api.Move{Seg: -7, Num: -7})
	spoilList(r.Tabs, api.Tab{Num: -7, First: "spoilt"})
	spoilList(r.Stills, api.Still{Num: -7})
}

func spoilList[T any](l []T, x T) {
	for i := range l[:cap(l)] {
		l[:cap(l)][i] = x
	}
}

// behind is a roster whose lists go on behind their ends.
func behind(r api.Roster) api.Roster {
	r = copied(r)
	r.Segs = append(r.Segs, -9, -9)[:len(r.Segs)]
	r.Moves = append(r.Moves, api.Move{Seg: -9}, api.Move{Num: -9})[:len(r.Moves)]
	r.Tabs = append(r.Tabs, api.Tab{Num: -9})[:len(r.Tabs)]
	r.Stills = append(r.Stills, api.Still{Term: -9})[:len(r.Stills)]
	return r
}

// all is a roster with all that its lists have room for.
func all(r api.Roster) api.Roster {
	r.Segs = r.Segs[:cap(r.Segs)]
	r.Moves = r.Moves[:cap(r.Moves)]
	r.Tabs = r.Tabs[:cap(r.Tabs)]
	r.Stills = r.Stills[:cap(r.Stills)]
	return r
}

// R3: no call writes to what it is handed, nor behind its end.
func TestNothingIsWritten(t *testing.T) {
	r := newSource()
	for range 2000 {
		x := behind(someRoster(r))
		if r.Intn(4) == 0 {
			*numbersOf(&x)[r.Intn(7)] = -1
		}
		kept := copied(all(x))
		l := doable(r, x, 12)
		l = append(l, someEdits(r, 3)...)
		keptEdits := slices.Clone(l)
		Check(x)
		Apply(x)
		Apply(x, l[:r.Intn(len(l)+1)]...)
		Apply(x, l...)
		Edits(x)
		Files(x)
		Same(x, kept)
		Same(kept, x)
		if !plainSame(all(x), kept) {
			t.Fatal("a call wrote to its roster, or behind its lists")
		}
		if !alike(l, keptEdits) {
			t.Fatal("a call wrote to its edits")
		}
	}
}

// R3: what Apply tells is no part of what was handed in, nor of another answer.
func TestApplyIsNew(t *testing.T) {
	r := newSource()
	made := 0
	for range 3000 {
		x := behind(someRoster(r))
		l := doable(r, x, r.Intn(6))
		want, err := plainApply(copied(x), l)
		if err != api.OK {
			continue
		}
		made++
		want = copied(want)
		kept, keptEdits := copied(x), slices.Clone(l)
		first, _ := Apply(x, l...)
		second, _ := Apply(x, l...)
		spoil(first)
		if !plainSame(x, kept) || !alike(l, keptEdits) {
			t.Fatal("what Apply tells is a part of what it was handed")
		}
		spoil(x)
		spoilList(l, api.Edit{Kind: -1})
		if !plainSame(second, want) {
			t.Fatal("what Apply tells shares memory")
		}
	}
	if made < 500 {
		t.Errorf("only %d were made", made)
	}
}

// R3: of what Apply tells no two lists share memory, also where one grows.
func TestApplysListsAreApart(t *testing.T) {
	r := newSource()
	for range 1000 {
		x, _ := Apply(someRoster(r))
		kept := copied(x)
		grown := append(x.Segs, 1, 2, 3)
		grown[0] = -1
		x.Segs = kept.Segs
		if !plainSame(x, kept) {
			t.Fatal("two lists of one answer share memory")
		}
	}
}

// R3: what Edits and Files tell is no part of the roster, nor of another answer.
func TestEditsAndFilesAreNew(t *testing.T) {
	r := newSource()
	for range 1000 {
		x := behind(someRoster(r))
		kept := copied(x)
		edits, files := Edits(x), Files(x)
		moreEdits, moreFiles := Edits(x), Files(x)
		spoilList(edits, api.Edit{Kind: -1, Tab: api.Tab{First: "spoilt"}})
		spoilList(files, api.File{Kind: -1})
		if !plainSame(x, kept) {
			t.Fatal("what is told is a part of the roster")
		}
		spoil(x)
		if !alike(moreEdits, plainEdits(kept)) || !alike(moreFiles, plainFiles(kept)) {
			t.Fatal("what is told shares memory")
		}
	}
	first := First()
	first.Segs = append(first.Segs, 9)
	if !plainSame(First(), bare()) {
		t.Error("First() is turned")
	}
}

// R4: the same answers, again and again, whatever the memory around the lists is.
func TestSameAgain(t *testing.T) {
	r := newSource()
	for range 2000 {
		x := someRoster(r)
		l := append(doable(r, x, 5), someEdits(r, r.Intn(2))...)
		one, err := Apply(x, l...)
		Apply(someRoster(r), someEdits(r, 3)...)
		two, err2 := Apply(behind(x), append(slices.Clone(l), api.Edit{})[:len(l)]...)
		if err != err2 || !plainSame(one, two) {
			t.Fatalf("Apply(%v, %v) answers otherwise", x, l)
		}
		if !alike(Edits(x), Edits(behind(x))) || !alike(Files(x), Files(behind(x))) || Check(x) != Check(behind(x)) {
			t.Fatalf("calls of %v answer otherwise", x)
		}
	}
}

// R5: no lists, or empty ones, are the same.
func TestNoListsOrEmpty(t *testing.T) {
	for _, x := range []api.Roster{bare(), {Log: 1, Mark: 9}, {Log: 9, Hard: api.Hard{Term: 2}}, {}} {
		empty := copied(x)
		if Check(x) != Check(empty) || !Same(x, empty) || !alike(Edits(x), Edits(empty)) || len(Files(empty)) != 0 {
			t.Errorf("calls of %v and %v answer otherwise", x, empty)
		}
		one, err := Apply(x, seg(1))
		two, err2 := Apply(empty, seg(1))
		if err != err2 || !plainSame(one, two) {
			t.Errorf("Apply of %v and %v answers otherwise", x, empty)
		}
	}
	// Lists of which nothing is left are none, too.
	x, err := Apply(First(), seg(1), move(1, 0), mark(3), still(1, 1, 1), unstill(1), tab(whole().Tabs[0]), untab(5))
	if err != api.OK || !Same(x, api.Roster{Log: 1, Mark: 3}) || len(Edits(x)) != 1 || len(Files(x)) != 0 {
		t.Errorf("what is left is %v, %d", x, err)
	}
}

// P1: great lists are refused, and calls end.
func TestGreatArguments(t *testing.T) {
	for _, turn := range []func(*api.Roster){
		func(r *api.Roster) { r.Segs = make([]int, 1<<20) },
		func(r *api.Roster) { r.Segs = upTo(1 << 20) },
		func(r *api.Roster) { r.Segs, r.Moves = []int{mostCount}, movesTo(1<<20) },
		func(r *api.Roster) { r.Tabs = manyTabs(1 << 20) },
		func(r *api.Roster) { r.Stills, r.Mark = make([]api.Still, 1<<20), 9 },
	} {
		x := turned(bare(), turn)
		if Check(x) != api.ErrArg || len(Edits(x)) != 0 || len(Files(x)) != 0 {
			t.Error("a great roster may be")
		}
		if y, err := Apply(x, seg(1)); err != api.ErrArg || !plainSame(y, api.Roster{}) {
			t.Errorf("Apply = %v, %d", y, err)
		}
	}
	if _, err := Apply(First(), make([]api.Edit, 1<<20)...); err != api.ErrArg {
		t.Errorf("Apply of zero edits = %d", err)
	}
}

func BenchmarkApply(b *testing.B) {
	l := Edits(whole())
	for b.Loop() {
		Apply(First(), l...)
	}
}

func BenchmarkCheck(b *testing.B) {
	x := someRoster(newSource())
	for b.Loop() {
		Check(x)
	}
}
