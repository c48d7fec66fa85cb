package tally

import (
	"math"
	"math/rand"
	"slices"

	"garner/api"
)

// The chapter's words, done plainly, by numbers of their own and by maps; they share nothing with the package.

const (
	mostCount  = 1<<31 - 1
	mostValue  = 4096
	mostBytes  = 1 << 40
	mostShares = 4096
)

func plainMayBe(l []api.Share) bool {
	for i, s := range l {
		if s.Seg < 1 || s.Seg > mostCount || s.Bytes < 1 || s.Bytes > mostBytes {
			return false
		}
		if i > 0 && l[i-1].Seg >= s.Seg {
			return false
		}
	}
	return len(l) <= mostShares
}

func plainPointsMayBe(l []api.Point) bool {
	return !slices.ContainsFunc(l, func(p api.Point) bool {
		return p.Seg < 1 || p.Seg > mostCount || p.At < 0 || p.At > mostCount || p.Len < 0 || p.Len > mostValue
	})
}

func plainMap(l []api.Share) map[int]int {
	m := map[int]int{}
	for _, s := range l {
		m[s.Seg] += s.Bytes
	}
	return m
}

// plainList leaves out what has nothing.
func plainList(m map[int]int) []api.Share {
	l := []api.Share{}
	for seg, n := range m {
		if n != 0 {
			l = append(l, api.Share{Seg: seg, Bytes: n})
		}
	}
	slices.SortFunc(l, func(a, b api.Share) int { return a.Seg - b.Seg })
	return l
}

func plainSum(m map[int]int) ([]api.Share, api.Errno) {
	l := plainList(m)
	if !plainMayBe(l) {
		return nil, api.ErrFull
	}
	return l, api.OK
}

func plainAdd(l []api.Share, p []api.Point) ([]api.Share, api.Errno) {
	if !plainMayBe(l) || !plainPointsMayBe(p) {
		return nil, api.ErrArg
	}
	m := plainMap(l)
	for _, x := range p {
		m[x.Seg] += x.Len
	}
	return plainSum(m)
}

func plainSub(l []api.Share, p []api.Point) ([]api.Share, api.Errno) {
	if !plainMayBe(l) || !plainPointsMayBe(p) {
		return nil, api.ErrArg
	}
	m := plainMap(l)
	for _, x := range p {
		if m[x.Seg] < x.Len {
			return nil, api.ErrNone
		}
		m[x.Seg] -= x.Len
	}
	return plainList(m), api.OK
}

func plainGet(l []api.Share, seg int) int {
	if !plainMayBe(l) {
		return 0
	}
	return plainMap(l)[seg]
}

func plainJoin(a, b []api.Share) ([]api.Share, api.Errno) {
	if !plainMayBe(a) || !plainMayBe(b) {
		return nil, api.ErrArg
	}
	return plainSum(plainMap(slices.Concat(a, b)))
}

func newSource() *rand.Rand { return rand.New(rand.NewSource(9)) }

// someSegs are n segments that rise, near each other or far apart, sometimes up to the last one that there may be.
func someSegs(r *rand.Rand, n int) []int {
	wide := r.Intn(2) == 0
	l := make([]int, n)
	seg := r.Intn(3)
	for i := range l {
		seg += 1 + r.Intn(3)
		if wide {
			seg += r.Intn(100000)
		}
		l[i] = seg
	}
	if n > 0 && r.Intn(3) == 0 {
		l[n-1] = mostCount
	}
	return l
}

// someBytes is few, or many, or nearly as many as there may be.
func someBytes(r *rand.Rand) int {
	switch r.Intn(8) {
	case 0:
		return mostBytes - r.Intn(3*mostValue)
	case 1:
		return 1 + r.Intn(mostBytes)
	default:
		return 1 + r.Intn(mostValue+1)>>r.Intn(12)
	}
}

func someTally(r *rand.Rand, n int) []api.Share {
	var l []api.Share
	for _, seg := range someSegs(r, n) {
		l = append(l, api.Share{Seg: seg, Bytes: someBytes(r)})
	}
	return l
}

// pointsBeside are n points, of segments of a tally, and of ones beside these.
func pointsBeside(r *rand.Rand, l []api.Share, n int) []api.Point {
	p := make([]api.Point, n)
	for i := range p {
		seg := 1 + r.Intn(12)
		if len(l) > 0 && r.Intn(4) > 0 {
			seg = l[r.Intn(len(l))].Seg
		}
		if r.Intn(8) == 0 {
			seg = min(seg+1, mostCount)
		}
		p[i] = api.Point{Seg: seg, At: r.Intn(mostCount), Len: r.Intn(mostValue+1) >> r.Intn(13), Sum: r.Uint32()}
	}
	return p
}

// wrongTallies are tallies that may not be.
func wrongTallies() [][]api.Share {
	l := [][]api.Share{
		{{}},
		{{Seg: 2, Bytes: 1}, {Seg: 1, Bytes: 1}},
		{{Seg: 1, Bytes: 1}, {Seg: 1, Bytes: 1}},
		{{Seg: 1, Bytes: 1}, {Seg: 3, Bytes: 1}, {Seg: 2, Bytes: 1}},
		{{Seg: 1, Bytes: 1}, {Seg: 3, Bytes: 1}, {Seg: 3, Bytes: 2}},
		{{Seg: 0, Bytes: 1}, {Seg: 1, Bytes: 1}},
		{{Seg: -1, Bytes: 1}, {Seg: 1, Bytes: 1}},
		{{Seg: 1, Bytes: 0}, {Seg: 2, Bytes: 1}},
		{{Seg: 1, Bytes: 1}, {Seg: 2, Bytes: 0}},
		{{Seg: 1, Bytes: 1}, {Seg: 2, Bytes: 1}, {Seg: mostCount + 1, Bytes: 1}},
		manySegs(mostShares + 1),
		manySegs(2 * mostShares),
	}
	for _, seg := range []int{0, -1, -mostCount, mostCount + 1, 1 << 32, 1<<32 + 1, 1<<32 + 5, math.MaxInt, math.MinInt, math.MinInt + 1} {
		l = append(l, []api.Share{{Seg: seg, Bytes: 1}})
	}
	for _, n := range []int{0, -1, -mostBytes, mostBytes + 1, mostBytes << 1, math.MaxInt, math.MinInt, math.MinInt + 1} {
		l = append(l, []api.Share{{Seg: 1, Bytes: n}}, []api.Share{{Seg: 1, Bytes: 1}, {Seg: 2, Bytes: n}, {Seg: 3, Bytes: 1}})
	}
	return l
}

// wrongPoints are points that may not be.
func wrongPoints() []api.Point {
	l := []api.Point{{}, {Len: 1}}
	for _, n := range []int{-1, -4096, mostCount + 1, 1 << 32, 1<<32 + 1, math.MaxInt, math.MinInt} {
		l = append(l, api.Point{Seg: n, Len: 1}, api.Point{Seg: 1, At: n, Len: 1}, api.Point{Seg: 1, Len: n})
	}
	return append(l, api.Point{Seg: 1, Len: mostValue + 1}, api.Point{Seg: 1, At: -1}, api.Point{Seg: 0, At: 1, Len: 0})
}

// manySegs is a tally of the segments 2, 4, .. 2n, with one byte each.
func manySegs(n int) []api.Share {
	l := make([]api.Share, n)
	for i := range l {
		l[i] = api.Share{Seg: 2 * (i + 1), Bytes: 1}
	}
	return l
}
