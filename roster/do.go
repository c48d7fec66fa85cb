package roster

import (
	"slices"

	"garner/api"
)

// do does an edit that may be to a roster whose lists are nobody else's, and
// tells whether it can be done.
func do(r *api.Roster, e api.Edit) bool {
	done := true
	switch e.Kind {
	case api.EditSeg:
		done = doSeg(r, e.Num)
	case api.EditMove:
		done = doMove(r, api.Move{Seg: e.Index, Num: e.Num})
	case api.EditUnmove:
		r.Moves, done = without(r.Moves, moveSeg, e.Index)
	case api.EditTab:
		r.Tabs = append(r.Tabs, ownTab(e.Tab))
	case api.EditUntab:
		r.Tabs, done = without(r.Tabs, tabNum, e.Num)
	case api.EditStill:
		r.Stills = among(r.Stills, stillIndex, api.Still{Num: e.Num, Index: e.Index, Term: e.Term})
	case api.EditUnstill:
		r.Stills, done = without(r.Stills, stillIndex, e.Index)
	case api.EditBase:
		done = doBase(r, e)
	case api.EditMark:
		done = doMark(r, e.Index)
	}
	return done
}

// doSeg: no number of a segment is told twice, so points know which one they mean.
func doSeg(r *api.Roster, seg int) bool {
	if seg <= last(r.Segs) || seg <= lastMoved(r.Moves) {
		return false
	}
	r.Segs = append(r.Segs, seg)
	return true
}

func doMove(r *api.Roster, m api.Move) bool {
	at, there := slices.BinarySearch(r.Segs, m.Seg)
	if !there {
		return false
	}
	r.Segs = slices.Delete(r.Segs, at, at+1)
	// Of a segment of which nothing lived no move is kept.
	if m.Num != 0 {
		r.Moves = among(r.Moves, moveSeg, m)
	}
	return true
}

func doBase(r *api.Roster, e api.Edit) bool {
	if e.Num < r.Log || e.Index < r.Index {
		return false
	}
	r.Log, r.Index, r.Term, r.Hard = e.Num, e.Index, e.Term, e.Hard
	return true
}

func doMark(r *api.Roster, index int) bool {
	if index < r.Mark {
		return false
	}
	r.Mark = index
	return true
}

// lastMoved is the greatest segment of moves that rise; 0, if there are none.
func lastMoved(l []api.Move) int {
	if len(l) == 0 {
		return 0
	}
	return moveSeg(l[len(l)-1])
}
