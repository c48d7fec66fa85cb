package roster

import (
	"math"
	"slices"
	"testing"

	"garner/api"
)

func seg(num int) api.Edit           { return api.Edit{Kind: kindSeg, Num: num} }
func move(index, num int) api.Edit   { return api.Edit{Kind: kindMove, Index: index, Num: num} }
func unmove(index int) api.Edit      { return api.Edit{Kind: kindUnmove, Index: index} }
func tab(x api.Tab) api.Edit         { return api.Edit{Kind: kindTab, Tab: x} }
func untab(num int) api.Edit         { return api.Edit{Kind: kindUntab, Num: num} }
func still(n, index, t int) api.Edit { return api.Edit{Kind: kindStill, Num: n, Index: index, Term: t} }
func unstill(index int) api.Edit     { return api.Edit{Kind: kindUnstill, Index: index} }
func mark(index int) api.Edit        { return api.Edit{Kind: kindMark, Index: index} }

func base(num, index, term int, h api.Hard) api.Edit {
	return api.Edit{Kind: kindBase, Num: num, Index: index, Term: term, Hard: h}
}

// checkMade asks that edits done at a roster make another.
func checkMade(t *testing.T, r, want api.Roster, l ...api.Edit) {
	t.Helper()
	checkApply(t, r, l)
	if x, err := Apply(r, l...); err != api.OK || !plainSame(x, want) {
		t.Errorf("Apply(%v, %v) = %v, %d; want %v", r, l, x, err, want)
	}
}

// checkRefused asks that edits are refused, and nothing is told beside the error.
func checkRefused(t *testing.T, want api.Errno, r api.Roster, l ...api.Edit) {
	t.Helper()
	checkApply(t, r, l)
	if x, err := Apply(r, l...); err != want || !plainSame(x, api.Roster{}) {
		t.Errorf("Apply(%v, %v) = %v, %d; want nothing, %d", r, l, x, err, want)
	}
}

// Ro1: the chapter's example.
func TestApplyExample(t *testing.T) {
	checkMade(t, First(), api.Roster{Log: 1, Segs: []int{2}, Moves: []api.Move{{Seg: 1, Num: 5}}}, seg(1), seg(2), move(1, 5))
}

// Ro1: no edits.
func TestApplyOfNone(t *testing.T) {
	for _, r := range []api.Roster{bare(), whole()} {
		checkMade(t, r, r)
		checkMade(t, r, r, []api.Edit{}...)
	}
	checkRefused(t, api.ErrArg, api.Roster{})
	checkRefused(t, api.ErrArg, turned(whole(), func(r *api.Roster) { r.Log = 0 }))
}

// Ro1: one edit of each kind that can be done.
func TestApplyOfOne(t *testing.T) {
	w := whole()
	one := api.Tab{Num: 9, Level: 2, Size: 3, First: "a", Last: "z"}
	h := api.Hard{Term: 9, Vote: 8, Commit: 1}
	for _, c := range []struct {
		edit api.Edit
		turn func(*api.Roster)
	}{
		{seg(10), func(r *api.Roster) { r.Segs = []int{3, 7, 9, 10} }},
		{seg(mostCount), func(r *api.Roster) { r.Segs = []int{3, 7, 9, mostCount} }},
		{move(3, 1), func(r *api.Roster) {
			r.Segs, r.Moves = []int{7, 9}, movesOf([][2]int{{1, 20}, {3, 1}, {4, 3}, {8, 21}})
		}},
		{move(7, 7), func(r *api.Roster) {
			r.Segs, r.Moves = []int{3, 9}, movesOf([][2]int{{1, 20}, {4, 3}, {7, 7}, {8, 21}})
		}},
		{move(3, 0), func(r *api.Roster) { r.Segs = []int{7, 9} }},
		{move(7, 0), func(r *api.Roster) { r.Segs = []int{3, 9} }},
		{unmove(1), func(r *api.Roster) { r.Moves = r.Moves[1:] }},
		{unmove(4), func(r *api.Roster) { r.Moves = []api.Move{r.Moves[0], r.Moves[2]} }},
		{unmove(8), func(r *api.Roster) { r.Moves = r.Moves[:2] }},
		{tab(one), func(r *api.Roster) { r.Tabs = append(r.Tabs, one) }},
		{untab(5), func(r *api.Roster) { r.Tabs = r.Tabs[1:] }},
		{untab(2), func(r *api.Roster) { r.Tabs = []api.Tab{r.Tabs[0], r.Tabs[2]} }},
		{untab(8), func(r *api.Roster) { r.Tabs = r.Tabs[:2] }},
		{still(1, 1, 9), func(r *api.Roster) { r.Stills = stillsOf([][3]int{{1, 1, 9}, {6, 2, 1}, {4, 5, 2}}) }},
		{still(1, 3, 9), func(r *api.Roster) { r.Stills = stillsOf([][3]int{{6, 2, 1}, {1, 3, 9}, {4, 5, 2}}) }},
		{still(9, 6, 1), func(r *api.Roster) { r.Stills = stillsOf([][3]int{{6, 2, 1}, {4, 5, 2}, {9, 6, 1}}) }},
		{unstill(2), func(r *api.Roster) { r.Stills = r.Stills[1:] }},
		{unstill(5), func(r *api.Roster) { r.Stills = r.Stills[:1] }},
		{base(3, 5, 2, h), func(r *api.Roster) { r.Hard = h }},
		{base(3, 5, 1, api.Hard{}), func(r *api.Roster) { r.Term, r.Hard = 1, api.Hard{} }},
		{base(4, 6, 7, h), func(r *api.Roster) { r.Log, r.Index, r.Term, r.Hard = 4, 6, 7, h }},
		{base(mostCount, 5, 2, w.Hard), func(r *api.Roster) { r.Log = mostCount }},
		{mark(6), func(r *api.Roster) {}},
		{mark(7), func(r *api.Roster) { r.Mark = 7 }},
		{mark(mostCount), func(r *api.Roster) { r.Mark = mostCount }},
	} {
		checkMade(t, w, turned(w, c.turn), c.edit)
	}
}

// Ro1: one edit of each kind at First.
func TestApplyOfOneAtFirst(t *testing.T) {
	one := whole().Tabs[0]
	checkMade(t, First(), api.Roster{Log: 1, Segs: []int{1}}, seg(1))
	checkMade(t, First(), api.Roster{Log: 1, Segs: []int{mostCount}}, seg(mostCount))
	checkMade(t, First(), api.Roster{Log: 1, Tabs: []api.Tab{one}}, tab(one))
	checkMade(t, First(), api.Roster{Log: 1, Mark: 1}, mark(1))
	checkMade(t, First(), api.Roster{Log: 1}, base(1, 0, 0, api.Hard{}))
	checkMade(t, First(), api.Roster{Log: 5, Hard: api.Hard{Vote: 2}}, base(5, 0, 0, api.Hard{Vote: 2}))
	for _, e := range []api.Edit{move(1, 1), move(1, 0), unmove(1), untab(1), unstill(1), still(1, 1, 1), base(1, 1, 1, api.Hard{})} {
		checkRefused(t, api.ErrState, First(), e)
	}
}

// Ro1: one edit of each kind that can't be done.
func TestApplyOfOneThatCant(t *testing.T) {
	w := whole()
	for _, e := range []api.Edit{
		seg(1), seg(2), seg(3), seg(4), seg(5), seg(7), seg(8), seg(9),
		move(1, 30), move(2, 30), move(4, 30), move(10, 30), move(mostCount, 30),
		move(1, 0), move(2, 0), move(4, 0), move(10, 0),
		unmove(2), unmove(3), unmove(9), unmove(20), unmove(21), unmove(mostCount),
		untab(1), untab(3), untab(6), untab(mostCount),
		unstill(1), unstill(3), unstill(4), unstill(6), unstill(mostCount),
		base(2, 5, 2, w.Hard), base(1, 6, 2, w.Hard), base(3, 4, 2, w.Hard), base(9, 4, 9, w.Hard), base(3, 0, 0, w.Hard), base(2, 0, 0, api.Hard{}),
		mark(5), mark(1),
	} {
		checkRefused(t, api.ErrState, w, e)
	}
}

// Ro1: EditSeg is held against Moves by their Seg, also where Segs are lesser, and not by their Num.
func TestApplyOfSegBesideMoves(t *testing.T) {
	r := api.Roster{Log: 1, Segs: []int{4}, Moves: movesOf([][2]int{{1, 100}})}
	checkMade(t, r, api.Roster{Log: 1, Segs: []int{4, 5}, Moves: r.Moves}, seg(5))
	for _, n := range []int{5, 6, 7} {
		// Segment 6 is moved, and for a while the only one that there is.
		x := api.Roster{Log: 1, Segs: []int{6}}
		if n <= 6 {
			checkRefused(t, api.ErrState, x, move(6, 1), seg(n))
			checkMade(t, x, api.Roster{Log: 1, Segs: []int{n}}, move(6, 0), seg(n))
			checkMade(t, x, api.Roster{Log: 1, Segs: []int{n}}, move(6, 1), unmove(6), seg(n))
		} else {
			checkMade(t, x, api.Roster{Log: 1, Segs: []int{n}, Moves: movesOf([][2]int{{6, 1}})}, move(6, 1), seg(n))
		}
	}
}

// Ro1: EditSeg that can't be done, where a later edit would let what stands in its way be gone.
func TestApplyOfSegTooEarly(t *testing.T) {
	for _, c := range []struct {
		segs []int
		l    []api.Edit
	}{
		{[]int{1, 3}, []api.Edit{seg(2), move(3, 0)}},
		{[]int{1, 3}, []api.Edit{seg(3), move(3, 0)}},
		{[]int{3}, []api.Edit{seg(2), move(3, 0)}},
		{[]int{6}, []api.Edit{move(6, 1), seg(5), unmove(6)}},
		{[]int{6}, []api.Edit{move(6, 1), seg(6), unmove(6)}},
		{[]int{1, 6}, []api.Edit{move(1, 1), move(6, 2), seg(3), unmove(6)}},
		{[]int{1, 4, 6}, []api.Edit{move(1, 1), move(4, 2), move(6, 3), seg(5), unmove(6)}},
	} {
		checkRefused(t, api.ErrState, api.Roster{Log: 1, Segs: c.segs}, c.l...)
	}
}

// Ro1: what comes of an edit that can be done may not be.
func TestApplyOfWhatMayNotBeThen(t *testing.T) {
	w := whole()
	full := turned(w, func(r *api.Roster) { r.Stills = stillsOf([][3]int{{6, 1, 1}, {4, 3, 2}, {1, 4, 2}, {2, 6, 2}}) })
	for _, e := range []api.Edit{
		move(9, 30),    // the Moves of 8 and 9 are above all Segs
		move(9, 0),     // so is that of 8
		move(3, 20),    // a Num that is there
		move(7, 3),     // as is this one
		still(1, 7, 1), // above Mark
		still(1, 2, 3), // an Index that is there
		still(6, 3, 3), // a Num that is there
		still(4, 1, 3), // as is this one
		base(3, 7, 2, w.Hard),
		base(3, mostCount, 2, w.Hard),
		tab(api.Tab{Num: 5, Level: 0, First: "a", Last: "a"}),
		tab(api.Tab{Num: 6, Level: 1, First: "f", Last: "f"}),
		tab(api.Tab{Num: 6, Level: 1, First: "a", Last: "z"}),
	} {
		checkRefused(t, api.ErrState, w, e)
	}
	checkRoster(t, full, api.OK)
	checkRefused(t, api.ErrState, full, still(9, 5, 1))
	checkRefused(t, api.ErrState, api.Roster{Log: 1, Segs: upTo(64)}, seg(65))
	checkRefused(t, api.ErrState, api.Roster{Log: 1, Tabs: manyTabs(64)}, tab(api.Tab{Num: 65, First: "a", Last: "a"}))
	checkRefused(t, api.ErrState, api.Roster{Log: 1, Segs: []int{65, 66}, Moves: movesTo(64)}, move(65, 1))
	checkRefused(t, api.ErrState, api.Roster{Log: 1, Segs: []int{1}}, move(1, 1))
}

// Ro1: a roster that may not be only between two edits; without the last of them it is refused.
func TestApplyOfWhatMayNotBeBetween(t *testing.T) {
	w := whole()
	met := api.Tab{Num: 6, Level: 1, Size: 3, First: "b", Last: "e"}
	alone := func(turn func(*api.Roster)) api.Roster { return turned(bare(), turn) }
	for _, c := range []struct {
		name    string
		r, want api.Roster
		l       []api.Edit
	}{
		{"65 Segs", alone(func(r *api.Roster) { r.Segs = upTo(64) }), alone(func(r *api.Roster) { r.Segs = upTo(65)[1:] }), []api.Edit{seg(65), move(1, 0)}},
		{"65 Moves", alone(func(r *api.Roster) { r.Segs, r.Moves = []int{65, 66}, movesTo(64) }), alone(func(r *api.Roster) { r.Segs, r.Moves = []int{66}, append(movesTo(64)[1:], api.Move{Seg: 65, Num: 1}) }), []api.Edit{move(65, 1), unmove(1)}},
		{"65 Tabs", alone(func(r *api.Roster) { r.Tabs = manyTabs(64) }), alone(func(r *api.Roster) { r.Tabs = manyTabs(65)[1:] }), []api.Edit{tab(manyTabs(65)[64]), untab(1)}},
		{"5 Stills", alone(func(r *api.Roster) {
			r.Mark, r.Stills = 9, stillsOf([][3]int{{1, 1, 1}, {2, 2, 1}, {3, 3, 1}, {4, 4, 1}})
		}), alone(func(r *api.Roster) {
			r.Mark, r.Stills = 9, stillsOf([][3]int{{1, 1, 1}, {2, 2, 1}, {4, 4, 1}, {5, 5, 1}})
		}), []api.Edit{still(5, 5, 1), unstill(3)}},
		{"the last Seg moved", alone(func(r *api.Roster) { r.Segs = []int{1} }), alone(func(r *api.Roster) { r.Segs, r.Moves = []int{2}, movesOf([][2]int{{1, 5}}) }), []api.Edit{move(1, 5), seg(2)}},
		{"Moves of one Num", w, turned(w, func(r *api.Roster) { r.Segs, r.Moves = []int{7, 9}, movesOf([][2]int{{3, 20}, {4, 3}, {8, 21}}) }), []api.Edit{move(3, 20), unmove(1)}},
		{"Stills of one Num", w, turned(w, func(r *api.Roster) { r.Stills = stillsOf([][3]int{{6, 4, 1}, {4, 5, 2}}) }), []api.Edit{still(6, 4, 1), unstill(2)}},
		{"Tabs that meet", w, turned(w, func(r *api.Roster) { r.Tabs = []api.Tab{w.Tabs[1], w.Tabs[2], met} }), []api.Edit{tab(met), untab(5)}},
		{"a Still above Mark", w, turned(w, func(r *api.Roster) { r.Stills, r.Mark = append(r.Stills, api.Still{Num: 1, Index: 9, Term: 3}), 9 }), []api.Edit{still(1, 9, 3), mark(9)}},
		{"an Index above Mark", w, turned(w, func(r *api.Roster) { r.Index, r.Term, r.Mark = 9, 3, 9 }), []api.Edit{base(3, 9, 3, w.Hard), mark(9)}},
	} {
		t.Run(c.name, func(t *testing.T) {
			checkRoster(t, c.r, api.OK)
			checkMade(t, c.r, c.want, c.l...)
			checkRefused(t, api.ErrState, c.r, c.l[:1]...)
		})
	}
}

// Ro1: of Tabs of one Num, and of Stills of one Index, none is left when that is gone.
func TestApplyOfTwins(t *testing.T) {
	w := whole()
	twin := api.Tab{Num: 2, Level: 0, Size: 99, First: "x", Last: "y"}
	checkMade(t, w, turned(w, func(r *api.Roster) { r.Tabs = []api.Tab{w.Tabs[0], w.Tabs[2]} }), tab(twin), untab(2))
	checkMade(t, w, turned(w, func(r *api.Roster) { r.Stills = w.Stills[:1] }), still(1, 5, 9), unstill(5))
	checkRefused(t, api.ErrState, w, tab(twin), untab(2), untab(2))
	checkRefused(t, api.ErrState, w, still(1, 5, 9), unstill(5), unstill(5))
	checkRefused(t, api.ErrState, w, tab(twin))
	checkRefused(t, api.ErrState, w, still(1, 5, 9))
}

// Ro1: edits of which a later one can be done behind an earlier one alone.
func TestApplyOneBehindTheOther(t *testing.T) {
	one := api.Tab{Num: 3, First: "a", Last: "b"}
	two := api.Tab{Num: 3, Level: 1, First: "c", Last: "d"}
	for _, l := range [][]api.Edit{
		{seg(1), seg(2), seg(9)},
		{seg(1), move(1, 0)},
		{seg(1), move(1, 4), unmove(1)},
		{seg(1), move(1, 4), unmove(1), seg(1)},
		{seg(1), move(1, 0), seg(1)},
		{tab(one), untab(3)},
		{tab(one), untab(3), tab(two)},
		{tab(one), untab(3), tab(two), untab(3), tab(one)},
		{mark(4), still(1, 4, 1), unstill(4)},
		{mark(4), still(1, 4, 1), unstill(4), still(1, 4, 2)},
		{mark(4), mark(4), mark(5)},
		{mark(4), base(2, 4, 1, api.Hard{}), base(2, 4, 2, api.Hard{Term: 1}), base(3, 4, 2, api.Hard{})},
	} {
		if err := checkApply(t, First(), l); err != api.OK {
			t.Errorf("Apply(First(), %v) = %d", l, err)
		}
	}
	for _, l := range [][]api.Edit{
		{seg(2), seg(1)},
		{seg(1), seg(1)},
		{move(1, 0), seg(1)},
		{seg(1), move(1, 0), move(1, 0)},
		{seg(1), move(1, 4), move(1, 5)},
		{seg(1), unmove(1), move(1, 4)},
		{seg(1), move(1, 4), seg(1)},
		{untab(3), tab(one)},
		{tab(one), untab(3), untab(3)},
		{mark(4), unstill(4), still(1, 4, 1)},
		{mark(4), still(1, 4, 1), unstill(4), unstill(4)},
		{mark(5), mark(4)},
		{mark(5), mark(4), mark(5)},
		{mark(9), base(3, 4, 1, api.Hard{}), base(2, 4, 1, api.Hard{})},
		{mark(9), base(3, 4, 1, api.Hard{}), base(3, 3, 1, api.Hard{}), base(3, 4, 1, api.Hard{})},
	} {
		checkRefused(t, api.ErrState, First(), l...)
	}
}

// Ro1: a roster or an edit that may not be, also where another edit can't be done, or stands ahead.
func TestApplyOfWhatMayNotBe(t *testing.T) {
	cant, can := untab(99), seg(100)
	for _, bad := range []api.Edit{
		{},
		{Kind: 10, Num: 1},
		{Kind: -1},
		{Kind: kindSeg},
		seg(-1), seg(mostCount + 1), seg(math.MaxInt),
		{Kind: kindSeg, Num: 200, Index: 1},
		{Kind: kindSeg, Num: 200, Hard: api.Hard{Vote: 1}},
		move(0, 1), move(3, -1), move(3, mostCount+1),
		unmove(0), untab(0), unstill(0), mark(0), mark(-1), mark(mostCount + 1),
		tab(api.Tab{}),
		tab(api.Tab{Num: 50, First: "b", Last: "a"}),
		{Kind: kindTab, Num: 1, Tab: api.Tab{Num: 50, First: "a", Last: "a"}},
		still(0, 1, 1), still(1, 0, 1), still(1, 1, 0),
		base(0, 6, 6, api.Hard{}), base(9, 6, 0, api.Hard{}), base(9, 0, 6, api.Hard{}), base(9, 6, 6, api.Hard{Commit: -1}),
	} {
		for _, l := range [][]api.Edit{{bad}, {can, bad}, {bad, can}, {cant, bad}, {bad, cant}, {can, cant, bad}, {bad, bad}} {
			checkRefused(t, api.ErrArg, whole(), l...)
			checkRefused(t, api.ErrArg, First(), l...)
		}
	}
	bad := turned(whole(), func(r *api.Roster) { r.Mark = 0 })
	// What an edit would mend is asked ahead of it.
	for _, l := range [][]api.Edit{nil, {can}, {cant}, {mark(9)}, {{}}} {
		checkRefused(t, api.ErrArg, bad, l...)
		checkRefused(t, api.ErrArg, api.Roster{}, l...)
	}
}

// Ro1: more edits than stand in a frame, and many.
func TestApplyOfMany(t *testing.T) {
	var l []api.Edit
	for n := 1; n <= 3000; n++ {
		l = append(l, seg(n))
	}
	checkRefused(t, api.ErrState, First(), l...)
	for n := 1; n < 3000; n++ {
		l = append(l, move(n, n%2*n))
	}
	checkRefused(t, api.ErrState, First(), l...)
	for n := 1; n < 2900; n += 2 {
		l = append(l, unmove(n))
	}
	want := api.Roster{Log: 1, Segs: []int{3000}}
	for n := 2901; n < 3000; n += 2 {
		want.Moves = append(want.Moves, api.Move{Seg: n, Num: n})
	}
	checkMade(t, First(), want, l...)
	checkMade(t, First(), api.Roster{Log: 1, Mark: 7}, slices.Repeat([]api.Edit{mark(7)}, 100000)...)
	checkRefused(t, api.ErrArg, First(), append(l, api.Edit{})...)
	checkRefused(t, api.ErrState, First(), append(l, untab(1))...)
}

// Ro1, Ro3: Apply as the words say, of edits that meet, and of such as can be done one behind the other.
func TestApplyAsTheWordsSay(t *testing.T) {
	r := newSource()
	count := map[api.Errno]int{}
	kinds := map[int]int{}
	for i := range 60000 {
		x := First()
		if i%3 == 0 {
			x = someRoster(r)
		}
		l := someEdits(r, r.Intn(4))
		if i%2 == 0 {
			l = doable(r, x, r.Intn(30))
		}
		if r.Intn(20) == 0 && len(l) > 0 {
			l[r.Intn(len(l))].Term ^= 1
		}
		err := checkApply(t, x, l)
		count[err]++
		if err != api.OK {
			continue
		}
		for _, e := range l {
			kinds[e.Kind]++
		}
		made, _ := Apply(x, l...)
		if i%10 == 0 {
			checkRoster(t, made, api.OK)
		}
	}
	for _, err := range []api.Errno{api.OK, api.ErrArg, api.ErrState} {
		if count[err] < 1000 {
			t.Errorf("only %d that answered %d came up", count[err], err)
		}
	}
	for kind := kindSeg; kind <= kindMark; kind++ {
		if kinds[kind] < 200 {
			t.Errorf("only %d of kind %d were done", kinds[kind], kind)
		}
	}
}

// Ro1: edits done in parts, wherever what is there in between may be, make the same.
func TestApplyInParts(t *testing.T) {
	r := newSource()
	parted := 0
	for range 5000 {
		x := someRoster(r)
		l := doable(r, x, r.Intn(20))
		all, err := Apply(x, l...)
		if err != api.OK {
			continue
		}
		at := r.Intn(len(l) + 1)
		half, err := Apply(x, l[:at]...)
		if err != api.OK {
			continue
		}
		parted++
		if again, err := Apply(half, l[at:]...); err != api.OK || !plainSame(again, all) {
			t.Fatalf("Apply(%v, %v) in two parts at %d = %v, %d; want %v", x, l, at, again, err, all)
		}
	}
	if parted < 500 {
		t.Errorf("only %d were done in parts", parted)
	}
}

// FuzzApply takes of each byte a kind, and of the next ones numbers.
func FuzzApply(f *testing.F) {
	f.Add([]byte{1, 1, 1, 1, 1, 2, 1, 1, 2, 5, 1, 1})
	f.Add([]byte{9, 1, 9, 1, 6, 3, 4, 2, 8, 2, 4, 2, 7, 1, 4, 1})
	f.Add([]byte{4, 3, 2, 1, 4, 4, 2, 1, 5, 3, 1, 1})
	f.Fuzz(func(t *testing.T, b []byte) {
		var l []api.Edit
		for ; len(b) >= 4; b = b[4:] {
			num, index, term := int(b[1]), int(b[2]), int(b[3])
			e := api.Edit{Kind: int(b[0]) % 11}
			switch e.Kind {
			case kindSeg, kindUntab:
				e.Num = num
			case kindMove:
				e.Num, e.Index = num, index
			case kindUnmove, kindUnstill, kindMark:
				e.Index = index
			case kindTab:
				e.Tab = api.Tab{Num: num, Level: index % 6, First: string(rune('a' + term%8)), Last: string(rune('a' + term/16))}
			case kindStill, kindBase:
				e.Num, e.Index, e.Term = num, index, term
			}
			l = append(l, e)
		}
		for end := range len(l) + 1 {
			if checkApply(t, First(), l[:end]) == api.OK {
				x, _ := Apply(First(), l[:end]...)
				checkRoster(t, x, api.OK)
			}
		}
	})
}
