package roster

import (
	"math"
	"slices"
	"strings"
	"testing"

	"garner/api"
)

// whole is a roster that may be, with something in each part.
func whole() api.Roster {
	return api.Roster{
		Segs:  []int{3, 7, 9},
		Moves: []api.Move{{Seg: 1, Num: 20}, {Seg: 4, Num: 3}, {Seg: 8, Num: 21}},
		Tabs: []api.Tab{
			{Num: 5, Level: 1, Size: 10, First: "a", Last: "f"},
			{Num: 2, Level: 0, Size: 11, First: "c", Last: "d"},
			{Num: 8, Level: 1, Size: 12, First: "g", Last: "k"},
		},
		Stills: []api.Still{{Num: 6, Index: 2, Term: 1}, {Num: 4, Index: 5, Term: 2}},
		Log:    3,
		Index:  5,
		Term:   2,
		Hard:   api.Hard{Term: 3, Vote: 1, Commit: 7},
		Mark:   6,
	}
}

// bare is a roster with nothing but Log 1.
func bare() api.Roster { return api.Roster{Log: 1} }

// checkRoster asks all calls of a roster whether it may be.
func checkRoster(t *testing.T, r api.Roster, want api.Errno) {
	t.Helper()
	if plainMayBe(r) != (want == api.OK) {
		t.Fatalf("the words say otherwise of %v", r)
	}
	if err := Check(r); err != want {
		t.Fatalf("Check(%v) = %d, want %d", r, err, want)
	}
	checkApply(t, r, nil)
	checkEdits(t, r)
	if l := Files(r); !alike(l, plainFiles(r)) {
		t.Fatalf("Files(%v) = %v, want %v", r, l, plainFiles(r))
	}
}

func checkApply(t *testing.T, r api.Roster, l []api.Edit) api.Errno {
	t.Helper()
	want, wantErr := plainApply(r, l)
	x, err := Apply(r, l...)
	if err != wantErr || !plainSame(x, want) {
		t.Fatalf("Apply(%v, %v) = %v, %d; want %v, %d", r, l, x, err, want, wantErr)
	}
	if err == api.OK && (Check(x) != api.OK || !plainMayBe(x)) {
		t.Fatalf("Apply(%v, %v) = %v, which may not be", r, l, x)
	}
	return err
}

// checkEdits asks for the edits of a roster, and that they make it again.
func checkEdits(t *testing.T, r api.Roster) {
	t.Helper()
	l := Edits(r)
	if !alike(l, plainEdits(r)) {
		t.Fatalf("Edits(%v) = %v, want %v", r, l, plainEdits(r))
	}
	if !plainMayBe(r) {
		return
	}
	if x, err := Apply(First(), l...); err != api.OK || !plainSame(x, r) {
		t.Fatalf("Edits of %v make %v, %d", r, x, err)
	}
}

// turned is a roster with something turned.
func turned(r api.Roster, turn func(*api.Roster)) api.Roster {
	r = copied(r)
	turn(&r)
	return r
}

// upTo are the numbers from 1 to n.
func upTo(n int) []int {
	l := make([]int, n)
	for i := range l {
		l[i] = i + 1
	}
	return l
}

// movesOf are Moves by their Seg and Num.
func movesOf(l [][2]int) []api.Move {
	var moves []api.Move
	for _, x := range l {
		moves = append(moves, api.Move{Seg: x[0], Num: x[1]})
	}
	return moves
}

// stillsOf are Stills by their Num, Index and Term.
func stillsOf(l [][3]int) []api.Still {
	var stills []api.Still
	for _, x := range l {
		stills = append(stills, api.Still{Num: x[0], Index: x[1], Term: x[2]})
	}
	return stills
}

// Ro1: at first there is nothing, and Log is 1.
func TestFirst(t *testing.T) {
	r := First()
	if !plainSame(r, bare()) {
		t.Fatalf("First() = %v", r)
	}
	checkRoster(t, r, api.OK)
	if l := Edits(r); len(l) != 0 {
		t.Errorf("Edits(First()) = %v", l)
	}
	if l := Files(r); len(l) != 0 {
		t.Errorf("Files(First()) = %v", l)
	}
}

// Ro1, R1: a roster with each part by itself, with all of them, and with nothing at all.
func TestCheckOfParts(t *testing.T) {
	w := whole()
	checkRoster(t, w, api.OK)
	checkRoster(t, bare(), api.OK)
	checkRoster(t, api.Roster{}, api.ErrArg)
	for _, c := range []struct {
		turn func(*api.Roster)
		want api.Errno
	}{
		{func(r *api.Roster) { r.Segs = w.Segs }, api.OK},
		{func(r *api.Roster) { r.Segs, r.Moves = w.Segs, w.Moves }, api.OK},
		{func(r *api.Roster) { r.Moves = w.Moves }, api.ErrArg},
		{func(r *api.Roster) { r.Tabs = w.Tabs }, api.OK},
		{func(r *api.Roster) { r.Stills = w.Stills }, api.ErrArg},
		{func(r *api.Roster) { r.Stills, r.Mark = w.Stills, w.Mark }, api.OK},
		{func(r *api.Roster) { r.Log = w.Log }, api.OK},
		{func(r *api.Roster) { r.Index = w.Index }, api.ErrArg},
		{func(r *api.Roster) { r.Term = w.Term }, api.ErrArg},
		{func(r *api.Roster) { r.Index, r.Term = w.Index, w.Term }, api.ErrArg},
		{func(r *api.Roster) { r.Index, r.Mark = w.Index, w.Mark }, api.ErrArg},
		{func(r *api.Roster) { r.Index, r.Term, r.Mark = w.Index, w.Term, w.Mark }, api.OK},
		{func(r *api.Roster) { r.Hard = w.Hard }, api.OK},
		{func(r *api.Roster) { r.Mark = w.Mark }, api.OK},
	} {
		checkRoster(t, turned(bare(), c.turn), c.want)
	}
	for _, turn := range []func(*api.Roster){
		func(r *api.Roster) { r.Moves = nil },
		func(r *api.Roster) { r.Tabs = nil },
		func(r *api.Roster) { r.Stills = nil },
		func(r *api.Roster) { r.Log = 1 },
		func(r *api.Roster) { r.Index, r.Term = 0, 0 },
		func(r *api.Roster) { r.Hard = api.Hard{} },
	} {
		checkRoster(t, turned(w, turn), api.OK)
	}
	checkRoster(t, turned(w, func(r *api.Roster) { r.Segs = nil }), api.ErrArg)
	checkRoster(t, turned(w, func(r *api.Roster) { r.Segs, r.Moves = nil, nil }), api.OK)
	checkRoster(t, turned(w, func(r *api.Roster) { r.Log = 0 }), api.ErrArg)
	checkRoster(t, turned(w, func(r *api.Roster) { r.Mark = 0 }), api.ErrArg)
}

// Ro1: Segs that rise, that do not, that do not count, and as many as there can be.
func TestCheckOfSegs(t *testing.T) {
	for _, c := range []struct {
		segs []int
		want api.Errno
	}{
		{nil, api.OK},
		{[]int{}, api.OK},
		{[]int{1}, api.OK},
		{[]int{mostCount}, api.OK},
		{[]int{1, 2, 3}, api.OK},
		{[]int{1, mostCount}, api.OK},
		{[]int{1, 1}, api.ErrArg},
		{[]int{2, 1}, api.ErrArg},
		{[]int{1, 3, 2}, api.ErrArg},
		{[]int{1, 2, 2}, api.ErrArg},
		{[]int{3, 1, 4}, api.ErrArg},
		{[]int{mostCount, mostCount}, api.ErrArg},
		{[]int{0}, api.ErrArg},
		{[]int{0, 1}, api.ErrArg},
		{[]int{-1}, api.ErrArg},
		{[]int{-1, 1}, api.ErrArg},
		{[]int{math.MinInt, 1}, api.ErrArg},
		{[]int{mostCount + 1}, api.ErrArg},
		{[]int{1, mostCount + 1}, api.ErrArg},
		{[]int{1, 1<<32 + 2}, api.ErrArg},
		{[]int{math.MaxInt}, api.ErrArg},
		{upTo(63), api.OK},
		{upTo(64), api.OK},
		{upTo(65), api.ErrArg},
		{upTo(300), api.ErrArg},
	} {
		checkRoster(t, turned(bare(), func(r *api.Roster) { r.Segs = c.segs }), c.want)
		checkRoster(t, turned(whole(), func(r *api.Roster) { r.Segs, r.Moves = c.segs, nil }), c.want)
	}
}

// Ro1: Moves that rise by Seg, and that do not; of which Segs, to which Nums.
func TestCheckOfMoves(t *testing.T) {
	for _, c := range []struct {
		segs  []int
		moves [][2]int
		want  api.Errno
	}{
		{[]int{2}, [][2]int{{1, 5}}, api.OK},
		{[]int{2}, [][2]int{{1, 1}}, api.OK},
		{[]int{2}, [][2]int{{1, 2}}, api.OK},
		{[]int{2}, [][2]int{{1, mostCount}}, api.OK},
		{[]int{mostCount}, [][2]int{{mostCount - 1, 5}}, api.OK},
		{[]int{1, 4}, [][2]int{{2, 5}, {3, 4}}, api.OK},
		{[]int{1, 4}, [][2]int{{3, 4}, {2, 5}}, api.ErrArg},
		{[]int{1, 4}, [][2]int{{2, 4}, {2, 5}}, api.ErrArg},
		{[]int{1, 4}, [][2]int{{2, 4}, {2, 4}}, api.ErrArg},
		{[]int{1, 4}, [][2]int{{2, 5}, {3, 5}}, api.ErrArg},
		{[]int{1, 9}, [][2]int{{2, 5}, {3, 6}, {4, 5}}, api.ErrArg},
		{[]int{1, 9}, [][2]int{{2, 5}, {3, 6}, {4, 6}}, api.ErrArg},
		{[]int{1, 9}, [][2]int{{2, 5}, {4, 6}, {3, 7}}, api.ErrArg},
		{[]int{1, 4}, [][2]int{{1, 5}}, api.ErrArg},
		{[]int{1, 2, 4}, [][2]int{{2, 5}}, api.ErrArg},
		{[]int{1, 4}, [][2]int{{4, 5}}, api.ErrArg},
		{[]int{1, 4}, [][2]int{{5, 5}}, api.ErrArg},
		{[]int{1, 4}, [][2]int{{3, 5}, {5, 6}}, api.ErrArg},
		{nil, [][2]int{{1, 5}}, api.ErrArg},
		{nil, [][2]int{{0, 5}}, api.ErrArg},
		{[]int{4}, [][2]int{{0, 5}}, api.ErrArg},
		{[]int{4}, [][2]int{{0, 5}, {1, 6}}, api.ErrArg},
		{[]int{4}, [][2]int{{-1, 5}}, api.ErrArg},
		{[]int{4}, [][2]int{{math.MinInt, 5}}, api.ErrArg},
		{[]int{4}, [][2]int{{mostCount + 1, 5}}, api.ErrArg},
		{[]int{4}, [][2]int{{1 << 32, 5}}, api.ErrArg},
		{[]int{4}, [][2]int{{1, 0}}, api.ErrArg},
		{[]int{4}, [][2]int{{1, 5}, {2, 0}}, api.ErrArg},
		{[]int{4}, [][2]int{{1, -1}}, api.ErrArg},
		{[]int{4}, [][2]int{{1, mostCount + 1}}, api.ErrArg},
		{[]int{4}, [][2]int{{1, 5}, {2, 1<<32 + 6}}, api.ErrArg},
		{[]int{4}, [][2]int{{}}, api.ErrArg},
		{[]int{2, 1}, [][2]int{{1, 5}}, api.ErrArg},
	} {
		checkRoster(t, turned(bare(), func(r *api.Roster) { r.Segs, r.Moves = c.segs, movesOf(c.moves) }), c.want)
		checkRoster(t, turned(whole(), func(r *api.Roster) { r.Segs, r.Moves = c.segs, movesOf(c.moves) }), c.want)
	}
}

// movesTo are n Moves of the Segs from 1 on.
func movesTo(n int) []api.Move {
	l := make([]api.Move, n)
	for i := range l {
		l[i] = api.Move{Seg: i + 1, Num: 1000 - i}
	}
	return l
}

// Ro1: as many Moves as there can be, also beside as many Segs.
func TestCheckOfManyMoves(t *testing.T) {
	segs := upTo(64)
	for i := range segs {
		segs[i] += 500
	}
	for _, few := range [][]int{segs, segs[:1]} {
		for n := range 68 {
			want := api.OK
			if n > 64 {
				want = api.ErrArg
			}
			checkRoster(t, turned(bare(), func(r *api.Roster) { r.Segs, r.Moves = few, movesTo(n) }), want)
		}
		checkRoster(t, turned(bare(), func(r *api.Roster) { r.Segs, r.Moves = few, movesTo(300) }), api.ErrArg)
		for i := range 64 {
			moves := movesTo(64)
			moves[i].Num = moves[(i+1)%64].Num
			checkRoster(t, turned(bare(), func(r *api.Roster) { r.Segs, r.Moves = few, moves }), api.ErrArg)
			moves = movesTo(64)
			moves[i].Seg = few[0]
			checkRoster(t, turned(bare(), func(r *api.Roster) { r.Segs, r.Moves = few, moves }), api.ErrArg)
		}
	}
}

// manyTabs are n tables of level 0.
func manyTabs(n int) []api.Tab {
	l := make([]api.Tab, n)
	for i := range l {
		l[i] = api.Tab{Num: i + 1, First: "a", Last: "z"}
	}
	return l
}

// Ro1: Tabs that may be beside each other, and that may not.
func TestCheckOfTabs(t *testing.T) {
	key := strings.Repeat("k", 64)
	for _, c := range []struct {
		tabs []api.Tab
		want api.Errno
	}{
		{[]api.Tab{{Num: 1, First: "a", Last: "a"}}, api.OK},
		{[]api.Tab{{Num: mostCount, Level: 4, Size: 1 << 30, First: key, Last: key}}, api.OK},
		{[]api.Tab{{Num: 2, First: "a", Last: "b"}, {Num: 1, First: "a", Last: "b"}}, api.OK},
		{[]api.Tab{{Num: 2, Level: 1, First: "b", Last: "b"}, {Num: 1, Level: 1, First: "a", Last: "a"}}, api.OK},
		{[]api.Tab{{Num: 2, Level: 1, First: "a", Last: "b"}, {Num: 1, Level: 1, First: "b", Last: "c"}}, api.ErrArg},
		{[]api.Tab{{Num: 1, First: "a", Last: "b"}, {Num: 1, Level: 2, First: "x", Last: "y"}}, api.ErrArg},
		{[]api.Tab{{Num: 0, First: "a", Last: "a"}}, api.ErrArg},
		{[]api.Tab{{Num: mostCount + 1, First: "a", Last: "a"}}, api.ErrArg},
		{[]api.Tab{{Num: 1, Level: 5, First: "a", Last: "a"}}, api.ErrArg},
		{[]api.Tab{{Num: 1, Level: -1, First: "a", Last: "a"}}, api.ErrArg},
		{[]api.Tab{{Num: 1, Size: -1, First: "a", Last: "a"}}, api.ErrArg},
		{[]api.Tab{{Num: 1, Size: 1<<30 + 1, First: "a", Last: "a"}}, api.ErrArg},
		{[]api.Tab{{Num: 1, First: "", Last: "a"}}, api.ErrArg},
		{[]api.Tab{{Num: 1, First: "a", Last: key + "k"}}, api.ErrArg},
		{[]api.Tab{{Num: 1, First: "b", Last: "a"}}, api.ErrArg},
		{[]api.Tab{{}}, api.ErrArg},
		{manyTabs(64), api.OK},
		{manyTabs(65), api.ErrArg},
	} {
		checkRoster(t, turned(bare(), func(r *api.Roster) { r.Tabs = c.tabs }), c.want)
		checkRoster(t, turned(whole(), func(r *api.Roster) { r.Tabs = c.tabs }), c.want)
	}
}

// Ro1: Stills that rise by Index, and that do not; their numbers, and how many there can be.
func TestCheckOfStills(t *testing.T) {
	for _, c := range []struct {
		mark   int
		stills [][3]int
		want   api.Errno
	}{
		{1, [][3]int{{1, 1, 1}}, api.OK},
		{mostCount, [][3]int{{mostCount, mostCount, mostCount}}, api.OK},
		{9, [][3]int{{5, 1, 9}, {1, 9, 1}}, api.OK},
		{9, [][3]int{{5, 9, 9}, {1, 1, 1}}, api.ErrArg},
		{9, [][3]int{{5, 1, 9}, {1, 1, 1}}, api.ErrArg},
		{9, [][3]int{{5, 1, 9}, {5, 2, 1}}, api.ErrArg},
		{9, [][3]int{{5, 1, 9}, {6, 2, 1}, {5, 3, 1}}, api.ErrArg},
		{9, [][3]int{{5, 1, 9}, {6, 3, 1}, {7, 2, 1}}, api.ErrArg},
		{9, [][3]int{{5, 1, 9}, {6, 2, 9}, {7, 3, 9}}, api.OK},
		{9, [][3]int{{5, 1, 9}, {6, 2, 9}, {7, 3, 9}, {8, 4, 1}}, api.OK},
		{9, [][3]int{{5, 1, 9}, {6, 2, 9}, {7, 3, 9}, {8, 4, 1}, {9, 5, 1}}, api.ErrArg},
		{9, [][3]int{{0, 1, 1}}, api.ErrArg},
		{9, [][3]int{{1, 0, 1}}, api.ErrArg},
		{9, [][3]int{{1, 1, 0}}, api.ErrArg},
		{9, [][3]int{{}}, api.ErrArg},
		{9, [][3]int{{-1, 1, 1}}, api.ErrArg},
		{9, [][3]int{{1, -1, 1}}, api.ErrArg},
		{9, [][3]int{{1, 1, -1}}, api.ErrArg},
		{9, [][3]int{{mostCount + 1, 1, 1}}, api.ErrArg},
		{mostCount + 1, [][3]int{{1, mostCount + 1, 1}}, api.ErrArg},
		{9, [][3]int{{1, 1, mostCount + 1}}, api.ErrArg},
		{9, [][3]int{{1, 1, 1}, {2, 2, 0}}, api.ErrArg},
		{9, [][3]int{{1, 1, 0}, {2, 2, 2}}, api.ErrArg},
		{9, [][3]int{{0, 1, 1}, {2, 2, 2}}, api.ErrArg},
		{9, [][3]int{{1, 9, 1}}, api.OK},
		{8, [][3]int{{1, 9, 1}}, api.ErrArg},
		{8, [][3]int{{2, 8, 1}, {1, 9, 1}}, api.ErrArg},
		{0, [][3]int{{1, 1, 1}}, api.ErrArg},
	} {
		checkRoster(t, turned(bare(), func(r *api.Roster) { r.Stills, r.Mark = stillsOf(c.stills), c.mark }), c.want)
		checkRoster(t, turned(whole(), func(r *api.Roster) { r.Stills, r.Mark, r.Index, r.Term = stillsOf(c.stills), c.mark, 0, 0 }), c.want)
	}
}

// edges are numbers at the ends of those that count.
func edges() []int {
	return []int{math.MinInt, -mostCount, -1, 0, 1, 2, mostCount - 1, mostCount, mostCount + 1, 1 << 32, 1<<32 + 1, math.MaxInt}
}

// Ro1: Log, and Hard's Term, Vote and Commit, at the edges.
func TestCheckOfLogAndHard(t *testing.T) {
	for _, base := range []api.Roster{bare(), whole()} {
		for _, n := range edges() {
			logWant, hardWant := api.ErrArg, api.ErrArg
			if n >= 1 && n <= mostCount {
				logWant = api.OK
			}
			if n >= 0 && n <= mostCount {
				hardWant = api.OK
			}
			checkRoster(t, turned(base, func(r *api.Roster) { r.Log = n }), logWant)
			checkRoster(t, turned(base, func(r *api.Roster) { r.Hard.Term = n }), hardWant)
			checkRoster(t, turned(base, func(r *api.Roster) { r.Hard.Vote = n }), hardWant)
			checkRoster(t, turned(base, func(r *api.Roster) { r.Hard.Commit = n }), hardWant)
			checkRoster(t, turned(base, func(r *api.Roster) { r.Hard = api.Hard{Term: n, Vote: n, Commit: n} }), hardWant)
		}
	}
}

// Ro1: Index and Term are both 0, or neither; Index is not above Mark.
func TestCheckOfIndexAndMark(t *testing.T) {
	for _, index := range edges() {
		for _, term := range edges() {
			for _, mark := range append(edges(), index-1, index+1) {
				want := api.ErrArg
				both := index == 0 && term == 0 || plainCounts(index) && plainCounts(term)
				if both && index <= mark && plainUpTo(mark) {
					want = api.OK
				}
				checkRoster(t, turned(bare(), func(r *api.Roster) { r.Index, r.Term, r.Mark = index, term, mark }), want)
				checkRoster(t, turned(whole(), func(r *api.Roster) { r.Index, r.Term, r.Mark, r.Stills = index, term, mark, nil }), want)
			}
		}
	}
}

// numbersOf are where the numbers of a roster stand.
func numbersOf(x *api.Roster) []*int {
	l := []*int{&x.Log, &x.Index, &x.Term, &x.Hard.Term, &x.Hard.Vote, &x.Hard.Commit, &x.Mark}
	for i := range x.Segs {
		l = append(l, &x.Segs[i])
	}
	for i := range x.Moves {
		l = append(l, &x.Moves[i].Seg, &x.Moves[i].Num)
	}
	for i := range x.Tabs {
		l = append(l, &x.Tabs[i].Num, &x.Tabs[i].Level, &x.Tabs[i].Size)
	}
	for i := range x.Stills {
		l = append(l, &x.Stills[i].Num, &x.Stills[i].Index, &x.Stills[i].Term)
	}
	return l
}

// Ro1: each number of a roster below 0, and one above those that count.
func TestCheckOfEachNumber(t *testing.T) {
	w := whole()
	for i := range numbersOf(&w) {
		for _, n := range []int{math.MinInt, -1, mostCount + 1, 1<<32 + 1, math.MaxInt} {
			checkRoster(t, turned(w, func(r *api.Roster) { *numbersOf(r)[i] = n }), api.ErrArg)
		}
	}
}

// Ro1: Check as the words say, of rosters that may be with one thing turned.
func TestCheckAsTheWordsSay(t *testing.T) {
	r := newSource()
	good, bad := 0, 0
	for range 6000 {
		x := copied(someRoster(r))
		checkRoster(t, x, api.OK)
		l := numbersOf(&x)
		*l[r.Intn(len(l))] = append(edges(), *l[r.Intn(len(l))], *l[r.Intn(len(l))], *l[r.Intn(len(l))]+1)[r.Intn(15)]
		want := api.ErrArg
		if plainMayBe(x) {
			want = api.OK
			good++
		} else {
			bad++
		}
		checkRoster(t, x, want)
	}
	if good < 1000 || bad < 1000 {
		t.Errorf("only %d that may be, and %d that may not, came up", good, bad)
	}
}

// turns each turn one part of a whole roster.
func turns() []func(*api.Roster) {
	l := []func(*api.Roster){
		func(r *api.Roster) { r.Segs = r.Segs[:2] },
		func(r *api.Roster) { r.Segs = append(r.Segs, 10) },
		func(r *api.Roster) { r.Segs = nil },
		func(r *api.Roster) { slices.Reverse(r.Segs) },
		func(r *api.Roster) { r.Moves = r.Moves[1:] },
		func(r *api.Roster) { r.Moves = append(r.Moves, api.Move{}) },
		func(r *api.Roster) { r.Moves = nil },
		func(r *api.Roster) { slices.Reverse(r.Moves) },
		func(r *api.Roster) { r.Tabs = r.Tabs[:1] },
		func(r *api.Roster) { r.Tabs = append(r.Tabs, api.Tab{}) },
		func(r *api.Roster) { r.Tabs = nil },
		func(r *api.Roster) { slices.Reverse(r.Tabs) },
		func(r *api.Roster) { r.Tabs[0].First = "\x01" },
		func(r *api.Roster) { r.Tabs[1].First += "\x00" },
		func(r *api.Roster) { r.Tabs[2].Last += "\x00" },
		func(r *api.Roster) { r.Stills = r.Stills[1:] },
		func(r *api.Roster) { r.Stills = append(r.Stills, api.Still{}) },
		func(r *api.Roster) { r.Stills = nil },
		func(r *api.Roster) { slices.Reverse(r.Stills) },
	}
	w := whole()
	for i := range numbersOf(&w) {
		l = append(l,
			func(r *api.Roster) { *numbersOf(r)[i]++ },
			func(r *api.Roster) { *numbersOf(r)[i] = -1 },
			func(r *api.Roster) { *numbersOf(r)[i] += 1 << 32 },
		)
	}
	return l
}

// Ro1, R5: rosters that are alike, that differ in one part alone, and of nil and empty parts; both ways round.
func TestSame(t *testing.T) {
	check := func(a, b api.Roster, want bool) {
		t.Helper()
		if plainSame(a, b) != want {
			t.Fatalf("the words say otherwise of %v and %v", a, b)
		}
		if Same(a, b) != want || Same(b, a) != want {
			t.Errorf("Same(%v, %v) is not %v both ways", a, b, want)
		}
	}
	empty := api.Roster{Segs: []int{}, Moves: []api.Move{}, Tabs: []api.Tab{}, Stills: []api.Still{}}
	check(api.Roster{}, api.Roster{}, true)
	check(api.Roster{}, empty, true)
	check(api.Roster{}, bare(), false)
	check(First(), bare(), true)
	check(First(), turned(empty, func(r *api.Roster) { r.Log = 1 }), true)
	check(whole(), bare(), false)
	check(whole(), whole(), true)
	check(whole(), copied(whole()), true)
	for _, turn := range turns() {
		other := turned(whole(), turn)
		check(whole(), other, false)
		check(other, copied(other), true)
	}
	check(whole(), turned(whole(), func(r *api.Roster) { r.Tabs[0].First = strings.Clone("a") }), true)
}

// Ro1: Same as the words say.
func TestSameAsTheWordsSay(t *testing.T) {
	r := newSource()
	few := func() api.Roster {
		n := func() int { return r.Intn(8) / 7 }
		x := api.Roster{Log: n(), Index: n(), Term: n(), Mark: n(), Hard: api.Hard{Term: n(), Vote: n(), Commit: n()}}
		x.Segs = make([]int, n())
		x.Moves = make([]api.Move, n())
		x.Tabs = make([]api.Tab, n())
		x.Stills = make([]api.Still, n())
		return x
	}
	same := 0
	for range 30000 {
		a, b := few(), few()
		if Same(a, b) != plainSame(a, b) {
			t.Fatalf("Same(%v, %v) = %v", a, b, Same(a, b))
		}
		if Same(a, b) {
			same++
		}
	}
	if same < 300 {
		t.Errorf("only %d were alike", same)
	}
}
