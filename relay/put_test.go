package relay

import (
	"bytes"
	"math"
	"slices"
	"testing"

	"garner/api"
)

// checkPut asks Put for what the words say, with that error.
func checkPut(t *testing.T, seg int, l []api.Hop, want api.Errno) {
	t.Helper()
	wantBytes, wantErr := plainPut(seg, l)
	if wantErr != want {
		t.Fatalf("the words say %d of segment %d and %d hops, not %d", wantErr, seg, len(l), want)
	}
	b, err := Put(seg, l)
	if err != want || !bytes.Equal(b, wantBytes) {
		t.Fatalf("Put(%d, %d hops) = %d bytes, %d; want %d, %d", seg, len(l), len(b), err, len(wantBytes), want)
	}
	if want != api.OK && b != nil {
		t.Fatalf("Put(%d, %d hops): bytes beside the error %d", seg, len(l), err)
	}
}

// checkTo asks Put, and Set, for a hop to a point.
func checkTo(t *testing.T, seg int, to api.Point, want api.Errno) {
	t.Helper()
	l := []api.Hop{{At: 1, To: to}}
	checkPut(t, seg, l, want)
	checkPut(t, seg, append([]api.Hop{{To: api.Point{Seg: seg + 1}}}, l...), want)
}

// Re1: bytes that are known.
func TestPutKnown(t *testing.T) {
	for _, c := range []struct {
		seg  int
		l    []api.Hop
		body []byte
	}{
		{1, nil, []byte{1, 0}},
		{300, nil, []byte{172, 2, 0}},
		{1, []api.Hop{{At: 2, To: api.Point{Seg: 3, At: 9}}}, []byte{1, 1, 2, 3, 9, 0, 0, 0, 0, 0}},
		{7, []api.Hop{
			{At: 0, To: api.Point{Seg: 300, At: 5, Len: 300, Sum: 0x04030201}},
			{At: 128, To: api.Point{Seg: 8, At: 4, Len: 1, Sum: 0xfffefdfc}},
		}, []byte{7, 2, 0, 172, 2, 5, 172, 2, 1, 2, 3, 4, 128, 1, 8, 4, 1, 252, 253, 254, 255}},
		{mostCount, nil, []byte{255, 255, 255, 255, 7, 0}},
	} {
		b, err := Put(c.seg, c.l)
		if want := plainFrame(4, c.body); err != api.OK || !bytes.Equal(b, want) {
			t.Errorf("Put(%d, %v) = % x, %d; want % x", c.seg, c.l, b, err, want)
		}
		checkPut(t, c.seg, c.l, api.OK)
	}
}

// Re1: as many hops as there may be, and one more.
func TestPutMany(t *testing.T) {
	checkPut(t, 1, nil, api.OK)
	checkPut(t, 1, []api.Hop{}, api.OK)
	for _, n := range []int{1, 2, 127, 128, 1000, 1001, 16383, 16384} {
		checkPut(t, 1, rising(n, 2), api.OK)
	}
	for _, n := range []int{16385, 16386, 40000} {
		checkPut(t, 1, rising(n, 2), api.ErrArg)
	}
}

// Re1: the longest move there may be.
func TestPutLongest(t *testing.T) {
	l := make([]api.Hop, 16384)
	for i := range l {
		l[i] = api.Hop{At: mostCount - 16384 + 1 + i, To: api.Point{Seg: mostCount, At: mostCount - i, Len: mostValue - i%2, Sum: math.MaxUint32}}
	}
	checkPut(t, mostCount-1, l, api.OK)
	b, _ := Put(mostCount-1, l)
	checkGet(t, b, api.OK)
}

func wrongSegs() []int {
	return []int{0, -1, -2, -mostCount, math.MinInt, math.MinInt32, mostCount + 1, mostCount + 2, 1 << 32, 1<<32 + 1, math.MaxInt}
}

// Re1: segments that may be, and such as may not.
func TestPutSegs(t *testing.T) {
	for _, seg := range []int{1, 2, 127, 128, mostCount - 1} {
		checkPut(t, seg, nil, api.OK)
		checkPut(t, seg, rising(3, mostCount), api.OK)
	}
	checkPut(t, mostCount, nil, api.OK)
	checkPut(t, mostCount, rising(1, mostCount), api.ErrArg)
	for _, seg := range wrongSegs() {
		checkPut(t, seg, nil, api.ErrArg)
		checkPut(t, seg, rising(3, mostCount), api.ErrArg)
	}
}

// Re1: places that don't rise.
func TestPutNotRising(t *testing.T) {
	for _, places := range [][]int{
		{0, 0}, {5, 5}, {5, 4}, {1, 0}, {mostCount, mostCount}, {mostCount, 0},
		{1, 2, 2}, {1, 1, 2}, {1, 3, 2}, {3, 1, 2}, {2, 3, 1}, {1, 2, 3, 3, 4}, {1, 2, 3, 2, 4},
	} {
		checkPut(t, 1, atPlaces(places), api.ErrArg)
		slices.Sort(places)
		checkPut(t, 1, atPlaces(slices.Compact(places)), api.OK)
	}
}

func atPlaces(places []int) []api.Hop {
	var l []api.Hop
	for _, at := range places {
		l = append(l, api.Hop{At: at, To: api.Point{Seg: 2, At: 9, Len: 1}})
	}
	return l
}

// Re1: places that may be, and such as may not, ahead of others and behind them.
func TestPutPlaces(t *testing.T) {
	for _, at := range []int{0, 1, 127, 128, mostCount - 1, mostCount} {
		checkPut(t, 1, atPlaces([]int{at}), api.OK)
	}
	checkPut(t, 1, atPlaces([]int{0, mostCount}), api.OK)
	for _, at := range []int{-1, -2, -mostCount, math.MinInt, mostCount + 1, 1 << 32, 1<<32 + 6, math.MaxInt} {
		checkPut(t, 1, atPlaces([]int{at}), api.ErrArg)
		checkPut(t, 1, atPlaces([]int{at, 7}), api.ErrArg)
		checkPut(t, 1, atPlaces([]int{5, at}), api.ErrArg)
		checkPut(t, 1, atPlaces([]int{at, mostCount}), api.ErrArg)
	}
}

// Re1: a hop leads to a point that may be, of a greater segment.
func TestPutTo(t *testing.T) {
	for _, to := range []api.Point{
		{Seg: 8}, {Seg: 9}, {Seg: 1000}, {Seg: mostCount}, {Seg: 8, At: mostCount}, {Seg: 8, Len: 4096}, {Seg: 8, Sum: math.MaxUint32},
	} {
		checkTo(t, 7, to, api.OK)
	}
	for _, to := range []api.Point{
		{Seg: 7}, {Seg: 6}, {Seg: 1}, {Seg: 0}, {Seg: -1}, {Seg: math.MinInt}, {Seg: mostCount + 1}, {Seg: 1<<32 + 8}, {Seg: math.MaxInt},
		{Seg: 8, At: -1}, {Seg: 8, At: math.MinInt}, {Seg: 8, At: mostCount + 1}, {Seg: 8, At: 1 << 32},
		{Seg: 8, Len: -1}, {Seg: 8, Len: 4097}, {Seg: 8, Len: 1 << 32}, {Seg: 8, Len: math.MinInt},
	} {
		checkTo(t, 7, to, api.ErrArg)
	}
}

// Re1: as the words say, of many hops.
func TestPutAsWords(t *testing.T) {
	r := newSource()
	for range 2000 {
		seg := 1 + someNumber(r, mostCount-2)
		l := someHops(r, seg, r.Intn(12))
		checkPut(t, seg, l, api.OK)
		if len(l) == 0 {
			continue
		}
		h := &l[r.Intn(len(l))]
		switch r.Intn(5) {
		case 0:
			h.At += r.Intn(5) - 2
		case 1:
			h.At = r.Intn(1<<33) - 1<<32
		case 2:
			h.To.Seg = seg + r.Intn(4) - 2
		case 3:
			h.To.Len = r.Intn(2*mostValue) - mostValue/2
		case 4:
			h.To.At = r.Intn(1<<33) - 1<<32
		}
		_, want := plainPut(seg, l)
		checkPut(t, seg, l, want)
	}
}
