package seg

import (
	"math"
	"testing"

	"garner/api"
)

// checkNext asks Next for what the words say, with that error.
func checkNext(t *testing.T, seg, size int, value []byte, want api.Errno) {
	t.Helper()
	wantPoint, wantErr := plainNext(seg, size, value)
	if wantErr != want {
		t.Fatalf("the words say %d of %d, %d, %d bytes, not %d", wantErr, seg, size, len(value), want)
	}
	p, err := Next(seg, size, value)
	if p != wantPoint || err != want {
		t.Fatalf("Next(%d, %d, %d bytes) = %v, %d; want %v, %d", seg, size, len(value), p, err, wantPoint, want)
	}
}

// Se2: points that are known.
func TestNextKnown(t *testing.T) {
	for _, c := range []struct {
		seg, size int
		value     []byte
		want      api.Point
	}{
		{5, 0, []byte{7, 8, 9}, api.Point{Seg: 5, At: 2, Len: 3, Sum: 0xf132df67}},
		{5, 9, []byte{7, 8, 9}, api.Point{Seg: 5, At: 11, Len: 3, Sum: 0xf132df67}},
		{1, 0, nil, api.Point{Seg: 1, At: 2}},
		{1, 100, []byte{}, api.Point{Seg: 1, At: 102}},
		{2, 100, bytesOf(127), api.Point{Seg: 2, At: 102, Len: 127, Sum: plainSum(bytesOf(127))}},
		{2, 100, bytesOf(128), api.Point{Seg: 2, At: 103, Len: 128, Sum: plainSum(bytesOf(128))}},
		{2, 100, bytesOf(4096), api.Point{Seg: 2, At: 103, Len: 4096, Sum: plainSum(bytesOf(4096))}},
	} {
		if p, err := Next(c.seg, c.size, c.value); err != api.OK || p != c.want {
			t.Errorf("Next(%d, %d, %d bytes) = %v, %d; want %v", c.seg, c.size, len(c.value), p, err, c.want)
		}
	}
}

// lengths are those of values that may be, at which something turns.
func lengths() []int { return []int{0, 1, 2, 126, 127, 128, 129, 2048, 4095, 4096} }

func wrongSegs() []int {
	return []int{0, -1, -2, -mostCount, math.MinInt, mostCount + 1, mostCount + 2, 1 << 32, 1<<32 + 1, math.MaxInt}
}

// wrongSizes are such behind which no value of any length stands, though some, with what stands ahead of it, would wrap round, or come to 0 or more.
func wrongSizes() []int {
	return []int{-1, -2, -3, -4, -mostCount, math.MinInt, math.MinInt + 1, mostCount - 1, mostCount, mostCount + 1, 1 << 32, 1<<32 + 1, math.MaxInt - 3, math.MaxInt - 2, math.MaxInt - 1, math.MaxInt}
}

// Se2: each length, segment and size that may be.
func TestNextOfWhatMayBe(t *testing.T) {
	for _, n := range lengths() {
		for _, seg := range []int{1, 2, 128, mostCount - 1, mostCount} {
			for _, size := range []int{0, 1, 2, 127, 128, mostBytes - 1, mostBytes, mostBytes + 1, 1 << 30, mostCount - 3} {
				checkNext(t, seg, size, bytesOf(n), api.OK)
			}
		}
	}
}

// Se2: segments and sizes at which there is no such point.
func TestNextOfWhatMayNotBe(t *testing.T) {
	for _, n := range lengths() {
		value := bytesOf(n)
		for _, seg := range wrongSegs() {
			for _, size := range append(wrongSizes(), 0, 1, mostBytes) {
				checkNext(t, seg, size, value, api.ErrArg)
			}
		}
		for _, size := range wrongSizes() {
			checkNext(t, 1, size, value, api.ErrArg)
			checkNext(t, mostCount, size, value, api.ErrArg)
		}
	}
}

// Se2: the greatest sizes, at which a point's At is just as much as it may be, and one more.
func TestNextAtTheLastPlace(t *testing.T) {
	for n, head := range map[int]int{0: 2, 1: 2, 127: 2, 128: 3, 4096: 3} {
		value := bytesOf(n)
		checkNext(t, 1, mostCount-head-1, value, api.OK)
		checkNext(t, 1, mostCount-head, value, api.OK)
		checkNext(t, 1, mostCount-head+1, value, api.ErrArg)
		if p, _ := Next(1, mostCount-head, value); p.At != mostCount {
			t.Errorf("a value of %d bytes behind %d: At %d", n, mostCount-head, p.At)
		}
	}
}

// Se2: a value that is too long is that first, whatever the segment and the size are.
func TestNextOfTooLong(t *testing.T) {
	for _, n := range []int{mostValue + 1, mostValue + 2, 1 << 16, mostBody, mostBody + 1} {
		value := make([]byte, n)
		for _, seg := range append(wrongSegs(), 1, mostCount) {
			for _, size := range append(wrongSizes(), 0, 1, mostBytes) {
				checkNext(t, seg, size, value, api.ErrBig)
			}
		}
	}
}

// Se2: many values, segments and sizes.
func TestNextAsWords(t *testing.T) {
	r := newSource()
	for range 5000 {
		value := someValue(r)
		if r.Intn(20) == 0 {
			value = someBytes(r, mostValue+1+r.Intn(9))
		}
		seg := r.Intn(mostCount) >> r.Intn(32)
		size := r.Intn(mostCount)>>r.Intn(32) - r.Intn(3)
		if r.Intn(4) == 0 {
			size = mostCount - r.Intn(6)
		}
		_, want := plainNext(seg, size, value)
		checkNext(t, seg, size, value, want)
	}
}
