package roster

import (
	"slices"

	"garner/api"
	"garner/level"
)

// Check tells why a roster may not be.
func Check(r api.Roster) api.Errno {
	if !segsMayBe(r.Segs) || !movesMayBe(r.Moves, r.Segs) ||
		level.Check(r.Tabs) != api.OK || !stillsMayBe(r.Stills, r.Mark) || !restMayBe(r) {
		return api.ErrArg
	}
	return api.OK
}

func segsMayBe(segs []int) bool { return len(segs) <= api.MaxSegs && rise(segs) }

func movesMayBe(moves []api.Move, segs []int) bool {
	if len(moves) > api.MaxSegs {
		return false
	}
	moved := numbers(moves, moveSeg)
	for _, seg := range moved {
		// The last segment gets new values: it, and what is behind, was never moved.
		if seg >= last(segs) || slices.Contains(segs, seg) {
			return false
		}
	}
	return rise(moved) && differ(numbers(moves, moveNum))
}

func stillsMayBe(stills []api.Still, mark int) bool {
	if len(stills) > api.MaxStills {
		return false
	}
	for _, x := range stills {
		if x.Index > mark || !counts(x.Term) {
			return false
		}
	}
	return rise(numbers(stills, stillIndex)) && differ(numbers(stills, stillNum))
}

// restMayBe tells whether what is known beside the files may be.
func restMayBe(r api.Roster) bool {
	return counts(r.Log) && countsOrNone(r.Mark) && placeMayBe(r) && r.Index <= r.Mark &&
		countsOrNone(r.Hard.Term) && countsOrNone(r.Hard.Vote) && countsOrNone(r.Hard.Commit)
}

// placeMayBe tells whether the log may be let go of up to such an Index of such a Term.
func placeMayBe(r api.Roster) bool {
	return counts(r.Index) && counts(r.Term) || r.Index == 0 && r.Term == 0
}

// rise tells whether numbers count, each above the one ahead.
func rise(l []int) bool {
	ahead := 0
	for _, n := range l {
		if n <= ahead || n > api.MaxCount {
			return false
		}
		ahead = n
	}
	return true
}

// differ tells whether numbers count, no two the same.
func differ(l []int) bool { return rise(slices.Sorted(slices.Values(l))) }

func counts(n int) bool { return n >= 1 && n <= api.MaxCount }

func countsOrNone(n int) bool { return n == 0 || counts(n) }

// last is the last one of numbers; 0, below all that count, if there are none.
func last(l []int) int {
	if len(l) == 0 {
		return 0
	}
	return l[len(l)-1]
}
