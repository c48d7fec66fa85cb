package roster

import (
	"math/rand"
	"slices"

	"garner/api"
)

// The chapter's words done plainly, with numbers of their own; they share nothing with the package, nor with the layers below.

const (
	mostCount  = 1<<31 - 1
	mostSegs   = 64
	mostStills = 4
	mostTabs   = 64
	mostLevel  = 4
	mostSize   = 1 << 30
	mostKey    = 64

	kindSeg     = 1
	kindMove    = 2
	kindUnmove  = 3
	kindTab     = 4
	kindUntab   = 5
	kindStill   = 6
	kindUnstill = 7
	kindBase    = 8
	kindMark    = 9

	fileValue = 3
	fileTable = 5
	fileSnap  = 6
	fileMove  = 7
)

func plainCounts(n int) bool { return n >= 1 && n <= mostCount }

func plainUpTo(n int) bool { return n >= 0 && n <= mostCount }

func plainTabAlone(x api.Tab) bool {
	if !plainCounts(x.Num) || x.Level < 0 || x.Level > mostLevel || x.Size < 0 || x.Size > mostSize {
		return false
	}
	for _, key := range []string{x.First, x.Last} {
		if len(key) < 1 || len(key) > mostKey {
			return false
		}
	}
	return x.First <= x.Last
}

func plainTabsMayBe(l []api.Tab) bool {
	if len(l) > mostTabs {
		return false
	}
	for i, x := range l {
		if !plainTabAlone(x) {
			return false
		}
		for _, y := range l[i+1:] {
			meet := !(x.Last < y.First) && !(y.Last < x.First)
			if x.Num == y.Num || x.Level == y.Level && x.Level > 0 && meet {
				return false
			}
		}
	}
	return true
}

func plainSegsMayBe(r api.Roster) bool {
	for i, seg := range r.Segs {
		if !plainCounts(seg) || i > 0 && seg <= r.Segs[i-1] {
			return false
		}
	}
	return len(r.Segs) <= mostSegs
}

func plainMovesMayBe(r api.Roster) bool {
	for i, m := range r.Moves {
		if !plainCounts(m.Seg) || !plainCounts(m.Num) {
			return false
		}
		for _, ahead := range r.Moves[:i] {
			if m.Seg <= ahead.Seg || m.Num == ahead.Num {
				return false
			}
		}
		if len(r.Segs) == 0 || m.Seg >= r.Segs[len(r.Segs)-1] {
			return false
		}
		for _, seg := range r.Segs {
			if seg == m.Seg {
				return false
			}
		}
	}
	return len(r.Moves) <= mostSegs
}

func plainStillsMayBe(r api.Roster) bool {
	for i, x := range r.Stills {
		if !plainCounts(x.Num) || !plainCounts(x.Index) || !plainCounts(x.Term) || x.Index > r.Mark {
			return false
		}
		for _, ahead := range r.Stills[:i] {
			if x.Index <= ahead.Index || x.Num == ahead.Num {
				return false
			}
		}
	}
	return len(r.Stills) <= mostStills
}

// plainMayBe goes by the chapter's words.
func plainMayBe(r api.Roster) bool {
	if !plainSegsMayBe(r) || !plainMovesMayBe(r) || !plainTabsMayBe(r.Tabs) || !plainStillsMayBe(r) {
		return false
	}
	for _, n := range []int{r.Index, r.Term, r.Mark, r.Hard.Term, r.Hard.Vote, r.Hard.Commit} {
		if !plainUpTo(n) {
			return false
		}
	}
	if (r.Index == 0) != (r.Term == 0) {
		return false
	}
	return plainCounts(r.Log) && r.Index <= r.Mark
}

// plainEditMayBe goes by the words of layer 16.
func plainEditMayBe(e api.Edit) bool {
	x := api.Edit{Kind: e.Kind}
	good := false
	switch e.Kind {
	case kindSeg, kindUntab:
		x.Num = e.Num
		good = plainCounts(e.Num)
	case kindMove:
		x.Num, x.Index = e.Num, e.Index
		good = plainUpTo(e.Num) && plainCounts(e.Index)
	case kindUnmove, kindUnstill, kindMark:
		x.Index = e.Index
		good = plainCounts(e.Index)
	case kindTab:
		x.Tab = e.Tab
		good = plainTabAlone(e.Tab)
	case kindStill:
		x.Num, x.Index, x.Term = e.Num, e.Index, e.Term
		good = plainCounts(e.Num) && plainCounts(e.Index) && plainCounts(e.Term)
	case kindBase:
		x.Num, x.Index, x.Term, x.Hard = e.Num, e.Index, e.Term, e.Hard
		good = plainCounts(e.Num) && plainUpTo(e.Index) && plainUpTo(e.Term) && (e.Index == 0) == (e.Term == 0) &&
			plainUpTo(e.Hard.Term) && plainUpTo(e.Hard.Vote) && plainUpTo(e.Hard.Commit)
	}
	return good && x == e
}

// plainDo goes by the chapter's words; what it tells is new, and r is as it was.
func plainDo(r api.Roster, e api.Edit) (api.Roster, bool) {
	done := false
	switch e.Kind {
	case kindSeg:
		done = true
		for _, seg := range r.Segs {
			done = done && e.Num > seg
		}
		for _, m := range r.Moves {
			done = done && e.Num > m.Seg
		}
		r.Segs = append(slices.Clip(r.Segs), e.Num)
	case kindMove:
		r, done = plainMoved(r, e)
	case kindUnmove:
		var left []api.Move
		for _, m := range r.Moves {
			if m.Seg == e.Index {
				done = true
			} else {
				left = append(left, m)
			}
		}
		r.Moves = left
	case kindTab:
		done = true
		r.Tabs = append(slices.Clip(r.Tabs), e.Tab)
	case kindUntab:
		var left []api.Tab
		for _, x := range r.Tabs {
			if x.Num == e.Num {
				done = true
			} else {
				left = append(left, x)
			}
		}
		r.Tabs = left
	case kindStill:
		done = true
		r.Stills = append(slices.Clip(r.Stills), api.Still{Num: e.Num, Index: e.Index, Term: e.Term})
		slices.SortStableFunc(r.Stills, func(a, b api.Still) int { return a.Index - b.Index })
	case kindUnstill:
		var left []api.Still
		for _, x := range r.Stills {
			if x.Index == e.Index {
				done = true
			} else {
				left = append(left, x)
			}
		}
		r.Stills = left
	case kindBase:
		done = !(e.Num < r.Log) && !(e.Index < r.Index)
		r.Log, r.Index, r.Term, r.Hard = e.Num, e.Index, e.Term, e.Hard
	case kindMark:
		done = !(e.Index < r.Mark)
		r.Mark = e.Index
	}
	return r, done
}

func plainMoved(r api.Roster, e api.Edit) (api.Roster, bool) {
	var left []int
	for _, seg := range r.Segs {
		if seg != e.Index {
			left = append(left, seg)
		}
	}
	done := len(left) < len(r.Segs)
	r.Segs = left
	if e.Num != 0 {
		r.Moves = append(slices.Clip(r.Moves), api.Move{Seg: e.Index, Num: e.Num})
		slices.SortStableFunc(r.Moves, func(a, b api.Move) int { return a.Seg - b.Seg })
	}
	return r, done
}

// plainApply goes by the chapter's words.
func plainApply(r api.Roster, l []api.Edit) (api.Roster, api.Errno) {
	if !plainMayBe(r) {
		return api.Roster{}, 1
	}
	for _, e := range l {
		if !plainEditMayBe(e) {
			return api.Roster{}, 1
		}
	}
	r.Stills, r.Moves = slices.Clone(r.Stills), slices.Clone(r.Moves)
	for _, e := range l {
		next, done := plainDo(r, e)
		if !done {
			return api.Roster{}, 11
		}
		r = next
	}
	if !plainMayBe(r) {
		return api.Roster{}, 11
	}
	return r, 0
}

// plainEdits goes by the chapter's words.
func plainEdits(r api.Roster) []api.Edit {
	if !plainMayBe(r) {
		return nil
	}
	segs := slices.Clone(r.Segs)
	for _, m := range r.Moves {
		segs = append(segs, m.Seg)
	}
	slices.Sort(segs)
	var l []api.Edit
	for _, seg := range segs {
		l = append(l, api.Edit{Kind: kindSeg, Num: seg})
	}
	for _, m := range r.Moves {
		l = append(l, api.Edit{Kind: kindMove, Index: m.Seg, Num: m.Num})
	}
	for _, x := range r.Tabs {
		l = append(l, api.Edit{Kind: kindTab, Tab: x})
	}
	if r.Mark > 0 {
		l = append(l, api.Edit{Kind: kindMark, Index: r.Mark})
	}
	for _, x := range r.Stills {
		l = append(l, api.Edit{Kind: kindStill, Num: x.Num, Index: x.Index, Term: x.Term})
	}
	if r.Log > 1 || r.Index > 0 || r.Hard.Term != 0 || r.Hard.Vote != 0 || r.Hard.Commit != 0 {
		l = append(l, api.Edit{Kind: kindBase, Num: r.Log, Index: r.Index, Term: r.Term, Hard: r.Hard})
	}
	return l
}

// plainFiles goes by the chapter's words.
func plainFiles(r api.Roster) []api.File {
	if !plainMayBe(r) {
		return nil
	}
	var l []api.File
	for _, seg := range r.Segs {
		l = append(l, api.File{Kind: fileValue, Num: seg})
	}
	for _, m := range r.Moves {
		l = append(l, api.File{Kind: fileMove, Num: m.Num})
	}
	for _, x := range r.Tabs {
		l = append(l, api.File{Kind: fileTable, Num: x.Num})
	}
	for _, x := range r.Stills {
		l = append(l, api.File{Kind: fileSnap, Num: x.Num})
	}
	return l
}

func alike[T comparable](a, b []T) bool {
	if len(a) != len(b) {
		return false
	}
	for i := range a {
		if a[i] != b[i] {
			return false
		}
	}
	return true
}

func plainSame(a, b api.Roster) bool {
	if !alike(a.Segs, b.Segs) || !alike(a.Moves, b.Moves) || !alike(a.Tabs, b.Tabs) || !alike(a.Stills, b.Stills) {
		return false
	}
	x := []int{a.Log, a.Index, a.Term, a.Mark, a.Hard.Term, a.Hard.Vote, a.Hard.Commit}
	y := []int{b.Log, b.Index, b.Term, b.Mark, b.Hard.Term, b.Hard.Vote, b.Hard.Commit}
	return alike(x, y)
}

// copied is a roster whose lists are its own, with room behind them.
func copied(r api.Roster) api.Roster {
	r.Segs = append(make([]int, 0, len(r.Segs)+3), r.Segs...)
	r.Moves = append(make([]api.Move, 0, len(r.Moves)+3), r.Moves...)
	r.Tabs = append(make([]api.Tab, 0, len(r.Tabs)+3), r.Tabs...)
	r.Stills = append(make([]api.Still, 0, len(r.Stills)+3), r.Stills...)
	return r
}

func newSource() *rand.Rand { return rand.New(rand.NewSource(17)) }

// someCount counts, and has any count of bits.
func someCount(r *rand.Rand) int { return 1 + r.Intn(mostCount)>>r.Intn(31) }

// someRising are n numbers that count and rise.
func someRising(r *rand.Rand, n int) []int {
	seen := map[int]bool{}
	var l []int
	for len(l) < n {
		if x := someCount(r); !seen[x] {
			seen[x] = true
			l = append(l, x)
		}
	}
	slices.Sort(l)
	return l
}

// someApart are n numbers that count, no two the same, in any order.
func someApart(r *rand.Rand, n int) []int {
	l := someRising(r, n)
	r.Shuffle(n, func(i, k int) { l[i], l[k] = l[k], l[i] })
	return l
}

func someKey(r *rand.Rand) string {
	b := make([]byte, 1+r.Intn(3))
	for i := range b {
		b[i] = byte('a' + r.Intn(26))
	}
	return string(b)
}

func someTab(r *rand.Rand) api.Tab {
	x := api.Tab{Num: someCount(r), Level: r.Intn(5), Size: r.Intn(mostSize+1) >> r.Intn(31), First: someKey(r), Last: someKey(r)}
	if r.Intn(2) == 0 {
		x.Last = x.First + x.Last
	}
	if x.First > x.Last {
		x.First, x.Last = x.Last, x.First
	}
	return x
}

// someTabs may be beside each other, n of them if they are found soon.
func someTabs(r *rand.Rand, n int) []api.Tab {
	var l []api.Tab
	for range 2 * n {
		if next := append(slices.Clip(l), someTab(r)); len(next) <= n && plainTabsMayBe(next) {
			l = next
		}
	}
	return l
}

// someRoster may be; some of its parts have nothing.
func someRoster(r *rand.Rand) api.Roster {
	x := api.Roster{Log: 1}
	if r.Intn(4) > 0 {
		x.Segs, x.Moves = someSegs(r)
	}
	if r.Intn(4) > 0 {
		x.Tabs = someTabs(r, r.Intn(65)>>r.Intn(6))
	}
	if r.Intn(4) > 0 {
		x.Mark = someCount(r)
	}
	nums := someApart(r, mostStills)
	for i, index := range someRising(r, r.Intn(5)) {
		if index <= x.Mark {
			x.Stills = append(x.Stills, api.Still{Num: nums[i], Index: index, Term: someCount(r)})
		}
	}
	if r.Intn(2) == 0 {
		x.Log = someCount(r)
	}
	if r.Intn(2) == 0 && x.Mark > 0 {
		x.Index, x.Term = 1+r.Intn(x.Mark), someCount(r)
	}
	for _, n := range []*int{&x.Hard.Term, &x.Hard.Vote, &x.Hard.Commit} {
		*n = r.Intn(2) * someCount(r)
	}
	return x
}

// someSegs are segments and moved ones that may be beside each other.
func someSegs(r *rand.Rand) ([]int, []api.Move) {
	var segs []int
	var moves []api.Move
	all := someRising(r, 1+r.Intn(128)>>r.Intn(7))
	nums := someApart(r, len(all))
	for i, seg := range all {
		left := len(all) - i
		if len(moves) < mostSegs && (r.Intn(2) == 0 || left+len(segs) > mostSegs) && left > 1 {
			moves = append(moves, api.Move{Seg: seg, Num: nums[i]})
		} else {
			segs = append(segs, seg)
		}
	}
	return segs, moves
}

// someEdit may be, of a kind, with numbers that are few, so that they meet.
func someEdit(r *rand.Rand, kind int) api.Edit {
	few := func() int { return 1 + r.Intn(6) }
	e := api.Edit{Kind: kind}
	switch kind {
	case kindSeg, kindUntab:
		e.Num = few()
	case kindMove:
		e.Num, e.Index = few()-1, few()
	case kindUnmove, kindUnstill, kindMark:
		e.Index = few()
	case kindTab:
		e.Tab = someTab(r)
		e.Tab.Num = few()
	case kindStill:
		e.Num, e.Index, e.Term = few(), few(), few()
	case kindBase:
		e.Num, e.Index, e.Term = few(), few(), few()
		e.Hard = api.Hard{Term: few() - 1, Vote: few() - 1, Commit: few() - 1}
		if r.Intn(3) == 0 {
			e.Index, e.Term = 0, 0
		}
	}
	return e
}

func someEdits(r *rand.Rand, n int) []api.Edit {
	l := make([]api.Edit, n)
	for i := range l {
		l[i] = someEdit(r, 1+r.Intn(9))
	}
	return l
}

// doable are up to n edits that can be done at a roster, one behind the other.
func doable(r *rand.Rand, x api.Roster, n int) []api.Edit {
	var l []api.Edit
	x = copied(x)
	for range n {
		e := someEdit(r, 1+r.Intn(9))
		if e.Kind == kindSeg && r.Intn(4) > 0 {
			e.Num = 1 + len(x.Segs) + len(x.Moves)
		}
		if e.Kind == kindTab && r.Intn(2) > 0 {
			e.Tab.Num = 10 + len(l)
		}
		if next, done := plainDo(x, e); done {
			l, x = append(l, e), copied(next)
		}
	}
	return l
}
