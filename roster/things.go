package roster

import (
	"cmp"
	"slices"
	"strings"

	"garner/api"
)

// numbers tells of things of any kind a number of each.
func numbers[T any](l []T, of func(T) int) []int {
	nums := make([]int, len(l))
	for i, x := range l {
		nums[i] = of(x)
	}
	return nums
}

// among is things that rise by a number, with x in its place.
func among[T any](l []T, of func(T) int, x T) []T {
	at, _ := slices.BinarySearchFunc(l, of(x), func(y T, n int) int { return cmp.Compare(of(y), n) })
	return slices.Insert(l, at, x)
}

// without is things of which those of a number are gone, in the same memory,
// and whether there were some.
func without[T any](l []T, of func(T) int, n int) ([]T, bool) {
	left := slices.DeleteFunc(l, func(x T) bool { return of(x) == n })
	return left, len(left) < len(l)
}

func moveSeg(m api.Move) int { return m.Seg }

func moveNum(m api.Move) int { return m.Num }

func tabNum(x api.Tab) int { return x.Num }

func stillNum(x api.Still) int { return x.Num }

func stillIndex(x api.Still) int { return x.Index }

// own is a roster that shares no memory with r.
func own(r api.Roster) api.Roster {
	r.Segs = slices.Clone(r.Segs)
	r.Moves = slices.Clone(r.Moves)
	r.Stills = slices.Clone(r.Stills)
	r.Tabs = slices.Clone(r.Tabs)
	for i, x := range r.Tabs {
		r.Tabs[i] = ownTab(x)
	}
	return r
}

func ownTab(x api.Tab) api.Tab {
	x.First, x.Last = strings.Clone(x.First), strings.Clone(x.Last)
	return x
}
