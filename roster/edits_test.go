package roster

import (
	"testing"

	"garner/api"
)

// Ro2: edits of each part by itself, and of all of them, in the chapter's order.
func TestEditsKnown(t *testing.T) {
	w := whole()
	segs := []api.Edit{seg(1), seg(3), seg(4), seg(7), seg(8), seg(9), move(1, 20), move(4, 3), move(8, 21)}
	tabs := []api.Edit{tab(w.Tabs[0]), tab(w.Tabs[1]), tab(w.Tabs[2])}
	marks := []api.Edit{mark(6)}
	stills := []api.Edit{still(6, 2, 1), still(4, 5, 2)}
	bases := []api.Edit{base(3, 5, 2, w.Hard)}
	join := func(l ...[]api.Edit) []api.Edit {
		var all []api.Edit
		for _, x := range l {
			all = append(all, x...)
		}
		return all
	}
	for _, c := range []struct {
		r    api.Roster
		want []api.Edit
	}{
		{bare(), nil},
		{w, join(segs, tabs, marks, stills, bases)},
		{api.Roster{Log: 1, Segs: w.Segs}, []api.Edit{seg(3), seg(7), seg(9)}},
		{api.Roster{Log: 1, Segs: w.Segs, Moves: w.Moves}, segs},
		{api.Roster{Log: 1, Tabs: w.Tabs}, tabs},
		{api.Roster{Log: 1, Mark: 6}, marks},
		{api.Roster{Log: 1, Mark: 6, Stills: w.Stills}, join(marks, stills)},
		{api.Roster{Log: 2}, []api.Edit{base(2, 0, 0, api.Hard{})}},
		{api.Roster{Log: 1, Mark: 1, Index: 1, Term: 9}, []api.Edit{mark(1), base(1, 1, 9, api.Hard{})}},
		{api.Roster{Log: 1, Hard: api.Hard{Term: 1}}, []api.Edit{base(1, 0, 0, api.Hard{Term: 1})}},
		{api.Roster{Log: 1, Hard: api.Hard{Vote: 1}}, []api.Edit{base(1, 0, 0, api.Hard{Vote: 1})}},
		{api.Roster{Log: 1, Hard: api.Hard{Commit: 1}}, []api.Edit{base(1, 0, 0, api.Hard{Commit: 1})}},
		{api.Roster{Log: 1, Segs: []int{2}, Moves: movesOf([][2]int{{1, 5}})}, []api.Edit{seg(1), seg(2), move(1, 5)}},
		{api.Roster{}, nil},
		{api.Roster{Log: 1, Moves: w.Moves}, nil},
		{turned(w, func(r *api.Roster) { r.Mark = 4 }), nil},
		{turned(w, func(r *api.Roster) { r.Log = 0 }), nil},
	} {
		if l := Edits(c.r); !alike(l, c.want) {
			t.Errorf("Edits(%v) = %v, want %v", c.r, l, c.want)
		}
		checkEdits(t, c.r)
	}
}

// Ro2, Ro3: as many edits as a roster can have.
func TestEditsOfTheGreatest(t *testing.T) {
	r := api.Roster{Log: mostCount, Index: mostCount, Term: mostCount, Mark: mostCount, Hard: api.Hard{Term: mostCount, Vote: mostCount, Commit: mostCount}}
	for n := range 64 {
		r.Segs = append(r.Segs, 2*n+2)
		r.Moves = append(r.Moves, api.Move{Seg: 2*n + 1, Num: mostCount - n})
	}
	r.Tabs = manyTabs(64)
	for n := range 4 {
		r.Stills = append(r.Stills, api.Still{Num: mostCount - n, Index: mostCount - 3 + n, Term: mostCount})
	}
	checkRoster(t, r, api.OK)
	if l := Edits(r); len(l) != 128+64+64+1+4+1 {
		t.Errorf("%d edits", len(l))
	}
	if l := Files(r); len(l) != 64+64+64+4 {
		t.Errorf("%d files", len(l))
	}
}

// Ro2: files in the chapter's order, also of the same numbers.
func TestFilesKnown(t *testing.T) {
	w := whole()
	for _, c := range []struct {
		r    api.Roster
		want []api.File
	}{
		{bare(), nil},
		{w, []api.File{
			{Kind: api.FileValue, Num: 3}, {Kind: api.FileValue, Num: 7}, {Kind: api.FileValue, Num: 9},
			{Kind: api.FileMove, Num: 20}, {Kind: api.FileMove, Num: 3}, {Kind: api.FileMove, Num: 21},
			{Kind: api.FileTable, Num: 5}, {Kind: api.FileTable, Num: 2}, {Kind: api.FileTable, Num: 8},
			{Kind: api.FileSnap, Num: 6}, {Kind: api.FileSnap, Num: 4},
		}},
		{api.Roster{Log: 7, Mark: 9, Index: 3, Term: 3}, nil},
		{api.Roster{Log: 1, Segs: []int{2}, Moves: movesOf([][2]int{{1, 5}})}, []api.File{{Kind: api.FileValue, Num: 2}, {Kind: api.FileMove, Num: 5}}},
		{api.Roster{Log: 1, Segs: []int{4}}, []api.File{{Kind: api.FileValue, Num: 4}}},
		{api.Roster{Log: 1, Tabs: w.Tabs[:1]}, []api.File{{Kind: api.FileTable, Num: 5}}},
		{api.Roster{Log: 1, Mark: 6, Stills: w.Stills[1:]}, []api.File{{Kind: api.FileSnap, Num: 4}}},
		{api.Roster{Segs: []int{4}}, nil},
		{api.Roster{Log: 1, Moves: w.Moves}, nil},
		{turned(w, func(r *api.Roster) { r.Mark = 4 }), nil},
	} {
		if l := Files(c.r); !alike(l, c.want) {
			t.Errorf("Files(%v) = %v, want %v", c.r, l, c.want)
		}
	}
}

// Ro2, Ro3: Edits and Files as the words say; the edits make the roster again.
func TestEditsAsTheWordsSay(t *testing.T) {
	r := newSource()
	moved, stilled := 0, 0
	for range 5000 {
		x := someRoster(r)
		checkRoster(t, x, api.OK)
		if len(x.Moves) > 0 {
			moved++
		}
		if len(x.Stills) > 1 {
			stilled++
		}
	}
	if moved < 1000 || stilled < 1000 {
		t.Errorf("only %d with Moves, and %d with Stills, came up", moved, stilled)
	}
}

// Ro3: a roster that is told as edits again and again, with more done in between, is what it was.
func TestEditsAgainAndAgain(t *testing.T) {
	r := newSource()
	long := 0
	for range 200 {
		x, again := First(), First()
		for range 60 {
			l := doable(r, x, 1+r.Intn(4))
			next, err := Apply(x, l...)
			if err != api.OK {
				continue
			}
			x = next
			checkRoster(t, x, api.OK)
			if again, err = Apply(again, l...); err != api.OK || !Same(again, x) {
				t.Fatalf("Apply of %v makes %v, %d; want %v", l, again, err, x)
			}
			if again, err = Apply(First(), Edits(again)...); err != api.OK || !Same(again, x) {
				t.Fatalf("Edits make %v, %d; want %v", again, err, x)
			}
		}
		if len(Edits(x)) > 6 {
			long++
		}
	}
	if long < 50 {
		t.Errorf("only %d had many edits", long)
	}
}
