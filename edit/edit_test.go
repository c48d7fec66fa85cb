package edit

import (
	"bytes"
	"math"
	"slices"
	"strings"
	"testing"

	"garner/api"
)

// whole is an edit of each kind that may be, with all that is named of it above 0.
func whole(kind int) api.Edit {
	e := api.Edit{Kind: kind}
	for i, part := range parts(kind) {
		if part == 'b' {
			e.Tab = api.Tab{Num: 300, Level: 2, Size: 301, First: "ab", Last: "b"}
			continue
		}
		*at(&e, part) = 5 + i
	}
	return e
}

// checkEdit asks Check, Put of it alone, and Get of its bytes.
func checkEdit(t *testing.T, e api.Edit, want api.Errno) {
	t.Helper()
	if plainMayBe(e) != (want == api.OK) {
		t.Fatalf("the words say otherwise of %v", e)
	}
	if err := Check(e); err != want {
		t.Fatalf("Check(%v) = %d, want %d", e, err, want)
	}
	checkPut(t, []api.Edit{e}, want)
}

// checkPut asks Put, and Get of what was put.
func checkPut(t *testing.T, l []api.Edit, want api.Errno) {
	t.Helper()
	if plainAllMayBe(l) != (want == api.OK) {
		t.Fatalf("the words say otherwise of %v", l)
	}
	b, err := Put(l)
	if want != api.OK {
		if b != nil || err != want {
			t.Fatalf("Put(%v) = %v, %d; want nothing, %d", l, b, err, want)
		}
		return
	}
	if err != api.OK || !bytes.Equal(b, plainBytes(l)) {
		t.Fatalf("Put(%v) = %v, %d; want %v", l, b, err, plainBytes(l))
	}
	checkGet(t, b, l)
}

func checkGet(t *testing.T, b []byte, want []api.Edit) {
	t.Helper()
	l, err := Get(b)
	if err != api.OK || !plainSame(l, want) {
		t.Fatalf("Get(%v) = %v, %d; want %v", b, l, err, want)
	}
}

func checkNone(t *testing.T, b []byte) {
	t.Helper()
	if l, err := Get(b); l != nil || err != api.ErrText {
		t.Fatalf("Get(%v) = %v, %d; want no edits", b, l, err)
	}
}

// Ed1: the chapter's example, and other bytes that are known, in the order that the chapter tells.
func TestPutKnown(t *testing.T) {
	for _, c := range []struct {
		l    []api.Edit
		want []byte
	}{
		{[]api.Edit{{Kind: api.EditSeg, Num: 3}}, []byte{1, 1, 3}},
		{[]api.Edit{{Kind: api.EditMove, Index: 1, Num: 5}}, []byte{1, 2, 5, 1}},
		{[]api.Edit{{Kind: api.EditMove, Index: 300}}, []byte{1, 2, 0, 172, 2}},
		{[]api.Edit{{Kind: api.EditUnmove, Index: 7}}, []byte{1, 3, 7}},
		{
			[]api.Edit{{Kind: api.EditTab, Tab: api.Tab{Num: 6, Level: 4, Size: 300, First: "ab", Last: "b"}}},
			[]byte{1, 4, 6, 4, 172, 2, 2, 'a', 'b', 1, 'b'},
		},
		{[]api.Edit{{Kind: api.EditUntab, Num: 6}}, []byte{1, 5, 6}},
		{[]api.Edit{{Kind: api.EditStill, Num: 1, Index: 2, Term: 3}}, []byte{1, 6, 1, 2, 3}},
		{[]api.Edit{{Kind: api.EditUnstill, Index: 2}}, []byte{1, 7, 2}},
		{
			[]api.Edit{{Kind: api.EditBase, Num: 1, Index: 2, Term: 3, Hard: api.Hard{Term: 4, Vote: 5, Commit: 6}}},
			[]byte{1, 8, 1, 2, 3, 4, 5, 6},
		},
		{[]api.Edit{{Kind: api.EditBase, Num: 1}}, []byte{1, 8, 1, 0, 0, 0, 0, 0}},
		{[]api.Edit{{Kind: api.EditMark, Index: mostCount}}, []byte{1, 9, 255, 255, 255, 255, 7}},
		{
			[]api.Edit{{Kind: api.EditSeg, Num: 3}, {Kind: api.EditMark, Index: 300}, {Kind: api.EditSeg, Num: 3}},
			[]byte{3, 1, 3, 9, 172, 2, 1, 3},
		},
	} {
		if b, err := Put(c.l); err != api.OK || !bytes.Equal(b, c.want) {
			t.Errorf("Put(%v) = %v, %d; want %v", c.l, b, err, c.want)
		}
		checkGet(t, c.want, c.l)
	}
}

// Ed1: each kind with nothing but what is named of it.
func TestCheckOfKinds(t *testing.T) {
	for kind := kindSeg; kind <= kindMark; kind++ {
		checkEdit(t, whole(kind), api.OK)
		checkEdit(t, api.Edit{Kind: kind}, api.ErrArg)
	}
}

// Ed1: a kind that there is not, with whatever parts.
func TestCheckOfNoKinds(t *testing.T) {
	for _, kind := range []int{0, 10, 11, 255, 256, -1, -9, math.MaxInt, math.MinInt, 1 << 32} {
		checkEdit(t, api.Edit{Kind: kind}, api.ErrArg)
		for real := kindSeg; real <= kindMark; real++ {
			e := whole(real)
			e.Kind = kind
			checkEdit(t, e, api.ErrArg)
			// A byte would have this kind as that one.
			e.Kind = real + 256
			checkEdit(t, e, api.ErrArg)
			e.Kind = real - 256
			checkEdit(t, e, api.ErrArg)
			e.Kind = real + 1<<32
			checkEdit(t, e, api.ErrArg)
		}
	}
}

// tabTurns each turn one part of a Tab.
func tabTurns() []func(*api.Tab) {
	return []func(*api.Tab){
		func(x *api.Tab) { x.Num = 1 },
		func(x *api.Tab) { x.Level = 1 },
		func(x *api.Tab) { x.Size = 1 },
		func(x *api.Tab) { x.First = "a" },
		func(x *api.Tab) { x.Last = "a" },
		func(x *api.Tab) { *x = whole(kindTab).Tab },
	}
}

// Ed1: each kind with one part besides that is not named of it.
func TestCheckOfPartsBesides(t *testing.T) {
	for kind := kindSeg; kind <= kindMark; kind++ {
		for _, part := range "NITtvc" {
			if strings.ContainsRune(parts(kind), part) {
				continue
			}
			for _, n := range []int{1, 2, -1, mostCount, mostCount + 1, math.MinInt, 1 << 32} {
				e := whole(kind)
				*at(&e, part) = n
				checkEdit(t, e, api.ErrArg)
			}
		}
		if kind == kindTab {
			continue
		}
		for _, turn := range tabTurns() {
			e := whole(kind)
			turn(&e.Tab)
			checkEdit(t, e, api.ErrArg)
		}
	}
}

// Ed1: each number of each kind, at its edges.
func TestCheckOfNumbers(t *testing.T) {
	mayBeNone := map[int]string{kindMove: "N", kindBase: "tvc"}
	for kind := kindSeg; kind <= kindMark; kind++ {
		for _, part := range parts(kind) {
			if part == 'b' {
				continue
			}
			for _, n := range []int{1, 2, 127, 128, 1 << 30, mostCount - 1, mostCount} {
				e := whole(kind)
				*at(&e, part) = n
				checkEdit(t, e, api.OK)
			}
			for _, n := range []int{-1, -2, -mostCount, math.MinInt, mostCount + 1, mostCount + 2, 1 << 32, 1<<32 + 1, math.MaxInt} {
				e := whole(kind)
				*at(&e, part) = n
				checkEdit(t, e, api.ErrArg)
			}
			want := api.ErrArg
			if strings.ContainsRune(mayBeNone[kind], part) {
				want = api.OK
			}
			e := whole(kind)
			*at(&e, part) = 0
			checkEdit(t, e, want)
		}
	}
}

// Ed1: EditMove with a Num of 0, at the edges of its Index.
func TestCheckOfMoveToNone(t *testing.T) {
	for _, c := range []struct {
		index int
		want  api.Errno
	}{{1, api.OK}, {mostCount, api.OK}, {0, api.ErrArg}, {-1, api.ErrArg}, {mostCount + 1, api.ErrArg}} {
		checkEdit(t, api.Edit{Kind: kindMove, Index: c.index}, c.want)
		checkEdit(t, api.Edit{Kind: kindMove, Index: c.index, Num: c.index}, c.want)
	}
}

// Ed1: EditBase, whose Index and Term both count, or are both 0.
func TestCheckOfBasesPlaces(t *testing.T) {
	edges := []int{math.MinInt, -mostCount, -1, 0, 1, 2, mostCount, mostCount + 1, math.MaxInt}
	for _, index := range edges {
		for _, term := range edges {
			want := api.ErrArg
			if plainCounts(index) && plainCounts(term) || index == 0 && term == 0 {
				want = api.OK
			}
			checkEdit(t, api.Edit{Kind: kindBase, Num: 1, Index: index, Term: term}, want)
			checkEdit(t, api.Edit{Kind: kindBase, Num: 1, Index: index, Term: term, Hard: api.Hard{Term: 1, Vote: 2, Commit: 3}}, want)
			checkEdit(t, api.Edit{Kind: kindBase, Index: index, Term: term}, api.ErrArg)
		}
	}
}

// Ed1: Hard's numbers of EditBase, at the edges, with others that are 0 and that are not.
func TestCheckOfBasesHard(t *testing.T) {
	edges := []int{math.MinInt, -1, 0, 1, mostCount, mostCount + 1, math.MaxInt}
	for _, term := range edges {
		for _, vote := range edges {
			for _, commit := range edges {
				want := api.ErrArg
				if plainUpTo(term) && plainUpTo(vote) && plainUpTo(commit) {
					want = api.OK
				}
				checkEdit(t, api.Edit{Kind: kindBase, Num: 9, Hard: api.Hard{Term: term, Vote: vote, Commit: commit}}, want)
			}
		}
	}
}

// Ed1: EditTab with a Tab that may be, alone, and with one that may not.
func TestCheckOfTabs(t *testing.T) {
	long, longer := strings.Repeat("k", 64), strings.Repeat("k", 65)
	for _, c := range []struct {
		tab  api.Tab
		want api.Errno
	}{
		{api.Tab{Num: 1, First: "a", Last: "a"}, api.OK},
		{api.Tab{Num: 0, First: "a", Last: "a"}, api.ErrArg},
		{api.Tab{Num: -1, First: "a", Last: "a"}, api.ErrArg},
		{api.Tab{Num: mostCount, First: "a", Last: "a"}, api.OK},
		{api.Tab{Num: mostCount + 1, First: "a", Last: "a"}, api.ErrArg},
		{api.Tab{Num: 1, Level: 4, First: "a", Last: "a"}, api.OK},
		{api.Tab{Num: 1, Level: 5, First: "a", Last: "a"}, api.ErrArg},
		{api.Tab{Num: 1, Level: -1, First: "a", Last: "a"}, api.ErrArg},
		{api.Tab{Num: 1, Size: 1, First: "a", Last: "a"}, api.OK},
		{api.Tab{Num: 1, Size: 1 << 30, First: "a", Last: "a"}, api.OK},
		{api.Tab{Num: 1, Size: 1<<30 + 1, First: "a", Last: "a"}, api.ErrArg},
		{api.Tab{Num: 1, Size: mostCount, First: "a", Last: "a"}, api.ErrArg},
		{api.Tab{Num: 1, Size: -1, First: "a", Last: "a"}, api.ErrArg},
		{api.Tab{Num: 1, First: "", Last: "a"}, api.ErrArg},
		{api.Tab{Num: 1, First: "a", Last: ""}, api.ErrArg},
		{api.Tab{Num: 1, First: "", Last: ""}, api.ErrArg},
		{api.Tab{Num: 1, First: long, Last: long}, api.OK},
		{api.Tab{Num: 1, First: "a", Last: long}, api.OK},
		{api.Tab{Num: 1, First: "a", Last: longer}, api.ErrArg},
		{api.Tab{Num: 1, First: longer, Last: "z"}, api.ErrArg},
		{api.Tab{Num: 1, First: longer, Last: longer}, api.ErrArg},
		{api.Tab{Num: 1, First: "b", Last: "a"}, api.ErrArg},
		{api.Tab{Num: 1, First: "ab", Last: "a"}, api.ErrArg},
		{api.Tab{Num: 1, First: "a", Last: "ab"}, api.OK},
		{api.Tab{Num: 1, First: "\x00", Last: "\xff"}, api.OK},
		{api.Tab{Num: 1, First: "\xff", Last: "\x00"}, api.ErrArg},
		{api.Tab{}, api.ErrArg},
	} {
		checkEdit(t, api.Edit{Kind: kindTab, Tab: c.tab}, c.want)
	}
}

// Ed1: Check as the words say, of edits that may be with one thing turned.
func TestCheckAsTheWordsSay(t *testing.T) {
	r := newSource()
	few := []int{math.MinInt, -1, 0, 1, mostSize, mostSize + 1, mostCount, mostCount + 1}
	good, bad := 0, 0
	for range 40000 {
		e := someOf(r, 1+r.Intn(9))
		switch r.Intn(5) {
		case 0:
			*at(&e, rune("NITtvc"[r.Intn(6)])) = few[r.Intn(len(few))]
		case 1:
			e.Kind = r.Intn(12)
		case 2:
			e.Tab = someTab(r)
		case 3:
			e.Tab.Size = few[r.Intn(len(few))]
		}
		want := api.ErrArg
		if plainMayBe(e) {
			want = api.OK
			good++
		} else {
			bad++
		}
		checkEdit(t, e, want)
	}
	if good < 8000 || bad < 8000 {
		t.Errorf("only %d that may be, and %d that may not, came up", good, bad)
	}
}

// Ed1: Put of so many edits as there can be, and of others.
func TestPutByLength(t *testing.T) {
	r := newSource()
	checkPut(t, nil, api.ErrArg)
	checkPut(t, []api.Edit{}, api.ErrArg)
	for n := 1; n <= 200; n++ {
		checkPut(t, someEdits(r, n), api.OK)
	}
	for _, n := range []int{201, 202, 255, 256, 257, 456, 1000} {
		checkPut(t, someEdits(r, n), api.ErrArg)
	}
}

// Ed1: Put with one edit among others that may not be, wherever it stands.
func TestPutWithOneThatMayNotBe(t *testing.T) {
	r := newSource()
	for _, n := range []int{1, 2, 3, 127, 200} {
		for _, i := range []int{0, n / 2, n - 1} {
			for kind := range 11 {
				l := someEdits(r, n)
				checkPut(t, l, api.OK)
				l[i] = api.Edit{Kind: kind}
				checkPut(t, l, api.ErrArg)
			}
		}
	}
}

// Ed1: edits that can't be done one behind the other are put all the same.
func TestPutOfTheSameEdits(t *testing.T) {
	for kind := kindSeg; kind <= kindMark; kind++ {
		checkPut(t, slices.Repeat([]api.Edit{whole(kind)}, 200), api.OK)
		checkPut(t, []api.Edit{whole(kindMark), whole(kind), whole(kindSeg), whole(kind)}, api.OK)
	}
}

// Ed1: lists alike, of another length, and unlike in one thing alone; both ways round.
func TestSame(t *testing.T) {
	var base []api.Edit
	for kind := kindSeg; kind <= kindMark; kind++ {
		base = append(base, whole(kind))
	}
	check := func(a, b []api.Edit, want bool) {
		t.Helper()
		if Same(a, b) != want || Same(b, a) != want {
			t.Errorf("Same(%v, %v) is not %v both ways", a, b, want)
		}
	}
	check(nil, nil, true)
	check(nil, []api.Edit{}, true)
	check(nil, base, false)
	check([]api.Edit{}, make([]api.Edit, 1), false)
	check(make([]api.Edit, 2), make([]api.Edit, 2), true)
	check(make([]api.Edit, 2), make([]api.Edit, 3), false)
	check(make([]api.Edit, 300), make([]api.Edit, 300), true)
	check(base, base, true)
	check(base, slices.Clone(base), true)
	check(base, base[:8], false)
	check(base, base[1:], false)
	check(base, append(slices.Clone(base), base[8]), false)
	check(base[:2], []api.Edit{base[1], base[0]}, false)
	for i := range base {
		for _, turn := range []func(*api.Edit){
			func(e *api.Edit) { e.Kind++ },
			func(e *api.Edit) { e.Kind += 256 },
			func(e *api.Edit) { e.Num++ },
			func(e *api.Edit) { e.Num += 1 << 32 },
			func(e *api.Edit) { e.Index++ },
			func(e *api.Edit) { e.Index += 1 << 32 },
			func(e *api.Edit) { e.Term++ },
			func(e *api.Edit) { e.Hard.Term++ },
			func(e *api.Edit) { e.Hard.Vote++ },
			func(e *api.Edit) { e.Hard.Commit++ },
			func(e *api.Edit) { e.Tab.Num++ },
			func(e *api.Edit) { e.Tab.Level++ },
			func(e *api.Edit) { e.Tab.Size-- },
			func(e *api.Edit) { e.Tab.First += "\x00" },
			func(e *api.Edit) { e.Tab.First = "\x01" },
			func(e *api.Edit) { e.Tab.Last += "\x00" },
			func(e *api.Edit) { e.Tab.Last = "\x01" },
		} {
			other := slices.Clone(base)
			turn(&other[i])
			check(base, other, false)
			check(other, slices.Clone(other), true)
		}
	}
	// The same keys, in memory of their own.
	other := slices.Clone(base)
	other[3].Tab.First = strings.Clone("ab")
	check(base, other, true)
}

// Ed1: Same as the words say.
func TestSameAsTheWordsSay(t *testing.T) {
	r := newSource()
	few := func() []api.Edit {
		l := make([]api.Edit, r.Intn(3))
		for i := range l {
			l[i] = api.Edit{Kind: 1 + r.Intn(5)/4, Num: r.Intn(5) / 4, Tab: api.Tab{Size: r.Intn(5) / 4, Last: "k"[:r.Intn(5)/4]}}
			l[i].Hard.Vote = r.Intn(5) / 4
		}
		return l
	}
	alike := 0
	for range 20000 {
		a, b := few(), few()
		if Same(a, b) != plainSame(a, b) {
			t.Fatalf("Same(%v, %v) = %v", a, b, Same(a, b))
		}
		if len(a) > 0 && Same(a, b) {
			alike++
		}
	}
	if alike < 100 {
		t.Errorf("only %d were alike", alike)
	}
}
