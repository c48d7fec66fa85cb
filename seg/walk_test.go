package seg

import (
	"encoding/binary"
	"math"
	"slices"
	"testing"

	"garner/api"
)

// checkWalk asks Walk for what the words say, which is so many points and bytes.
func checkWalk(t *testing.T, seg int, b []byte, points, size int) {
	t.Helper()
	want, wantSize := plainWalk(seg, b)
	if len(want) != points || wantSize != size {
		t.Fatalf("the words say %d points, %d bytes; not %d, %d", len(want), wantSize, points, size)
	}
	checkAsWords(t, seg, b)
}

func checkAsWords(t *testing.T, seg int, b []byte) {
	t.Helper()
	want, wantSize := plainWalk(seg, b)
	l, size := Walk(seg, b)
	if !slices.Equal(l, want) || size != wantSize {
		t.Fatalf("Walk(%d, % x, of %d bytes) = %v, %d; want %v, %d", seg, b[:min(len(b), 40)], len(b), l, size, want, wantSize)
	}
}

// The chapter's example: one value of three bytes in segment 5.
func TestWalkExample(t *testing.T) {
	b, err := Put([]byte{7, 8, 9})
	l, size := Walk(5, b)
	if err != api.OK || size != 9 || !slices.Equal(l, []api.Point{{Seg: 5, At: 2, Len: 3, Sum: 0xf132df67}}) {
		t.Errorf("Walk = %v, %d", l, size)
	}
}

// Se1: points that are known.
func TestWalkKnown(t *testing.T) {
	three := []byte("\x03\x02\x07\x08\x09\x5b\x14\x56\x66")
	none := []byte("\x00\x02\xa6\x23\x46\xb3")
	long := plainFrame(ofValues, bytesOf(128))
	sum := plainSum(bytesOf(128))
	for _, c := range []struct {
		b    []byte
		want []api.Point
		size int
	}{
		{nil, nil, 0},
		{[]byte{}, nil, 0},
		{none, []api.Point{{Seg: 3, At: 2}}, 6},
		{slices.Concat(none, none), []api.Point{{Seg: 3, At: 2}, {Seg: 3, At: 8}}, 12},
		{slices.Concat(none, three), []api.Point{{Seg: 3, At: 2}, {Seg: 3, At: 8, Len: 3, Sum: 0xf132df67}}, 15},
		{
			slices.Concat(three, long, three, []byte{3}),
			[]api.Point{{Seg: 3, At: 2, Len: 3, Sum: 0xf132df67}, {Seg: 3, At: 12, Len: 128, Sum: sum}, {Seg: 3, At: 146, Len: 3, Sum: 0xf132df67}},
			153,
		},
	} {
		if l, size := Walk(3, c.b); !slices.Equal(l, c.want) || size != c.size {
			t.Errorf("Walk(3, % x) = %v, %d; want %v, %d", c.b, l, size, c.want, c.size)
		}
	}
}

// Se1: segments' numbers, at their edges; what may not be has nothing, whatever its bytes are.
func TestWalkOfSegs(t *testing.T) {
	b := plainBytes([]byte{1}, bytesOf(300))
	for _, seg := range []int{1, 2, 127, 128, 1 << 30, mostCount - 1, mostCount} {
		checkWalk(t, seg, b, 2, len(b))
		checkWalk(t, seg, append(slices.Clone(b), 1, 2), 2, len(b))
		checkWalk(t, seg, nil, 0, 0)
	}
	for _, seg := range []int{0, -1, -2, -mostCount, math.MinInt, mostCount + 1, mostCount + 2, 1 << 32, 1<<32 + 1, math.MaxInt} {
		checkWalk(t, seg, b, 0, 0)
		checkWalk(t, seg, b[:len(b)-1], 0, 0)
		checkWalk(t, seg, nil, 0, 0)
		checkWalk(t, seg, make([]byte, mostBytes+1), 0, 0)
	}
}

// Se1: bytes that are cut short, at each place.
func TestWalkOfCutBytes(t *testing.T) {
	lengths := []int{0, 3, 127, 128, 0, 1, 300}
	var l [][]byte
	for _, n := range lengths {
		l = append(l, bytesOf(n))
	}
	b := plainBytes(l...)
	for end := range len(b) + 1 {
		points, size := 0, 0
		for points < len(l) && size+len(plainBytes(l[points])) <= end {
			size += len(plainBytes(l[points]))
			points++
		}
		checkWalk(t, 9, b[:end], points, size)
		checkWalk(t, 9, slices.Clip(slices.Clone(b[:end])), points, size)
	}
}

// checkWalkTo asks Walk of values with other bytes among them, at each place: what stands ahead is told.
func checkWalkTo(t *testing.T, other []byte) {
	t.Helper()
	l := [][]byte{bytesOf(3), nil, bytesOf(128), bytesOf(1)}
	for points := range len(l) + 1 {
		ahead, behind := plainBytes(l[:points]...), plainBytes(l[points:]...)
		checkWalk(t, 4, slices.Concat(ahead, other), points, len(ahead))
		checkWalk(t, 4, slices.Concat(ahead, other, behind), points, len(ahead))
		checkWalk(t, 4, slices.Concat(ahead, other, other, behind), points, len(ahead))
	}
}

// Se1: a frame of another Kind, also of one that no frame has.
func TestWalkToOtherKinds(t *testing.T) {
	for kind := range 256 {
		if kind == ofValues {
			continue
		}
		checkWalkTo(t, plainFrame(kind, nil))
		checkWalkTo(t, plainFrame(kind, []byte{7, 8, 9}))
		checkWalkTo(t, plainFrame(kind, bytesOf(200)))
	}
	checkWalkTo(t, plainFrame(1, bytesOf(mostValue+1)))
}

// Se1: a frame whose Body is too long.
func TestWalkToLongBodies(t *testing.T) {
	for _, n := range []int{mostValue + 1, mostValue + 2, 2 * mostValue, 1 << 16, mostBody, mostBody + 1} {
		checkWalkTo(t, plainBytes(make([]byte, n)))
	}
	whole := plainBytes(bytesOf(mostValue))
	checkWalk(t, 4, whole, 1, len(whole))
	checkWalk(t, 4, slices.Concat(whole, whole), 2, 2*len(whole))
}

// Se1: each bit of a frame's Kind, Body and sum counts.
func TestWalkToWrongSums(t *testing.T) {
	for _, n := range []int{0, 1, 20, 130} {
		b := plainBytes(bytesOf(n))
		for bit := (len(b) - n - 5) * 8; bit < len(b)*8; bit++ {
			wrong := slices.Clone(b)
			wrong[bit/8] ^= 1 << (bit % 8)
			checkWalkTo(t, wrong)
		}
	}
}

// Se1: what is no frame at all.
func TestWalkToNoFrames(t *testing.T) {
	zero := plainBytes(nil)[1:]
	one := plainBytes([]byte{7})[1:]
	for _, other := range [][]byte{
		{0},
		{128},
		{255, 255, 255, 255, 255},
		make([]byte, 50),
		append([]byte{128, 0}, zero...),
		append([]byte{129, 0}, one...),
		append([]byte{129, 128, 0}, one...),
		append(binary.AppendUvarint(nil, 1<<32), zero...),
		append(binary.AppendUvarint(nil, 1<<32+1), one...),
		append(binary.AppendUvarint(nil, 1<<63), zero...),
		append(binary.AppendUvarint(nil, math.MaxUint64), one...),
		append([]byte{129, 128, 128, 128, 128, 128, 128, 128, 128, 2}, one...),
	} {
		checkWalkTo(t, other)
	}
}

// full are just as many bytes as a segment's may be, and how many values they have.
func full() ([]byte, int) {
	const count = 1022
	b := plainBytes(slices.Repeat([][]byte{bytesOf(mostValue)}, count)...)
	return append(b, plainBytes(bytesOf(1031))...), count + 1
}

// Se1: as many bytes as may be, and one more.
func TestWalkOfManyBytes(t *testing.T) {
	b, points := full()
	if len(b) != mostBytes {
		t.Fatalf("%d bytes", len(b))
	}
	checkWalk(t, 1, b, points, mostBytes)
	checkWalk(t, 1, b[:mostBytes-1], points-1, mostBytes-1038)
	checkWalk(t, mostCount, b, points, mostBytes)
	checkWalk(t, 0, b, 0, 0)
	for _, behind := range [][]byte{{0}, {2}, plainBytes(nil), b} {
		checkWalk(t, 1, slices.Concat(b, behind), 0, 0)
	}
	// Few values, but too many bytes behind them.
	few := plainBytes(bytesOf(5), nil)
	checkWalk(t, 1, append(slices.Clone(few), make([]byte, mostBytes-len(few))...), 2, len(few))
	checkWalk(t, 1, append(slices.Clone(few), make([]byte, mostBytes-len(few)+1)...), 0, 0)
	checkWalk(t, 1, make([]byte, mostBytes), 0, 0)
	checkWalk(t, 1, make([]byte, mostBytes+1), 0, 0)
}

// Se1: of values without bytes there are the most in a segment's bytes.
func TestWalkOfManyValues(t *testing.T) {
	const count = mostBytes / 6
	b := plainBytes(make([][]byte, count)...)
	checkWalk(t, 1, b, count, count*6)
	checkWalk(t, 1, append(b, 0, 2, 0, 0), count, count*6)
}

// Se1: all of two bytes ahead of a sum, and values whose bytes are spoilt anywhere.
func TestWalkAsWords(t *testing.T) {
	sum := plainBytes(nil)[2:]
	for u := range 1 << 16 {
		checkAsWords(t, 1, slices.Concat([]byte{byte(u), byte(u >> 8)}, sum))
	}
	r := newSource()
	for range 3000 {
		b := plainBytes(someValues(r, r.Intn(5))...)
		for range r.Intn(3) {
			if len(b) > 0 {
				b[r.Intn(len(b))] ^= 1 << r.Intn(8)
			}
		}
		if r.Intn(2) == 0 {
			b = append(b, someBytes(r, r.Intn(9))...)
		}
		checkAsWords(t, 1+r.Intn(9), b[:len(b)-r.Intn(min(len(b), 9)+1)])
	}
}
