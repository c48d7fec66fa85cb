package level

import (
	"slices"

	"garner/api"
)

// maxBase is the most that level 1 may have before it is full.
const maxBase = 1 << 20

// Pick is what is merged.
func Pick(l []api.Tab, base int) (api.Job, bool) {
	if Check(l) != api.OK || base < 1 || base > maxBase {
		return api.Job{}, false
	}
	// In the order of reading all lists that are cut of it stay in order, and
	// the first one of a level above 0 is that of the least First.
	l = ordered(l)
	for n := range api.MaxLevel {
		if isFull(ofLevel(l, n), n, base) {
			return jobOf(l, n), true
		}
	}
	return api.Job{}, false
}

// All is a job of all tables.
func All(l []api.Tab) (api.Job, bool) {
	if Check(l) != api.OK || len(l) == 0 {
		return api.Job{}, false
	}
	l = ordered(l)
	greatest := l[len(l)-1].Level
	return api.Job{In: nums(l), Level: max(greatest, 1), Drop: true}, true
}

// ofLevel is the tables of a level.
func ofLevel(l []api.Tab, n int) []api.Tab {
	var here []api.Tab
	for _, x := range l {
		if x.Level == n {
			here = append(here, x)
		}
	}
	return here
}

// isFull tells whether a level below the greatest one, with these tables, is full.
func isFull(here []api.Tab, n, base int) bool {
	if n == 0 {
		return len(here) >= api.MaxLevel0
	}
	room := base
	for range n - 1 {
		room *= 4
	}
	for _, x := range here {
		room -= x.Size
	}
	return room < 0
}

// jobOf is what is merged of a level that is full, of tables in the order of reading.
func jobOf(l []api.Tab, n int) api.Job {
	from := ofLevel(l, n)
	if n > 0 {
		from = from[:1]
	}
	into := meeting(ofLevel(l, n+1), spanOf(from))
	in := slices.Concat(from, into)
	return api.Job{In: nums(in), Level: n + 1, Drop: !hidesOlder(in, l, n+1)}
}

// spanOf is a table from the least First to the greatest Last of some.
func spanOf(l []api.Tab) api.Tab {
	span := api.Tab{First: l[0].First, Last: l[0].Last}
	for _, x := range l[1:] {
		span.First = min(span.First, x.First)
		span.Last = max(span.Last, x.Last)
	}
	return span
}

// hidesOlder tells whether a table of a level above n meets one of those merged:
// there an older item of a key may stand, which comes up again if a dead one is left out.
func hidesOlder(in, l []api.Tab, n int) bool {
	return slices.ContainsFunc(l, func(x api.Tab) bool {
		return x.Level > n && len(meeting(in, x)) > 0
	})
}
