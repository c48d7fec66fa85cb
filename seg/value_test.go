package seg

import (
	"bytes"
	"math"
	"slices"
	"testing"

	"garner/api"
)

// checkValue asks Value for what the words say, with that error.
func checkValue(t *testing.T, b []byte, p api.Point, want api.Errno) {
	t.Helper()
	wantValue, wantErr := plainValue(b, p)
	if wantErr != want {
		t.Fatalf("the words say %d of %v in %d bytes, not %d", wantErr, p, len(b), want)
	}
	value, err := Value(b, p)
	if err != want || !bytes.Equal(value, wantValue) {
		t.Fatalf("Value(of %d bytes, %v) = % x, %d; want % x, %d", len(b), p, value, err, wantValue, want)
	}
	if err != api.OK && value != nil {
		t.Fatalf("Value(of %d bytes, %v): no nil beside error %d", len(b), p, err)
	}
}

// pointOf tells n bytes from the place at on, as they are in b.
func pointOf(b []byte, at, n int) api.Point {
	return api.Point{Seg: 8, At: at, Len: n, Sum: plainSum(b[at:][:n])}
}

// Se2: values that are known.
func TestValueKnown(t *testing.T) {
	b := []byte("\x03\x02\x07\x08\x09\x5b\x14\x56\x66\x00\x02\xa6\x23\x46\xb3")
	value, err := Value(b, api.Point{Seg: 5, At: 2, Len: 3, Sum: 0xf132df67})
	if err != api.OK || !bytes.Equal(value, []byte{7, 8, 9}) {
		t.Errorf("Value = %v, %d", value, err)
	}
	value, err = Value(b, api.Point{Seg: 5, At: 11})
	if err != api.OK || len(value) != 0 {
		t.Errorf("Value = %v, %d", value, err)
	}
}

// Se2: whatever segment a point tells, the bytes that are handed in are asked.
func TestValueOfSegs(t *testing.T) {
	b := plainBytes([]byte{7, 8, 9})
	for _, seg := range []int{1, 2, 5, 128, mostCount - 1, mostCount} {
		p := pointOf(b, 2, 3)
		p.Seg = seg
		checkValue(t, b, p, api.OK)
	}
}

// Se2: points that may not be, each of their numbers beyond both its edges: that is told first, whatever the bytes are.
func TestValueOfWrongPoints(t *testing.T) {
	beyond := []int{-1, -2, -mostCount, math.MinInt, mostCount + 1, mostCount + 2, 1 << 32, 1<<32 + 2, 1<<32 + 3, math.MaxInt}
	for _, b := range [][]byte{nil, {7}, plainBytes([]byte{7, 8, 9}), make([]byte, 5000)} {
		good := api.Point{Seg: 5, At: 2, Len: 3, Sum: 0xf132df67}
		for _, n := range append(beyond, 0) {
			p := good
			p.Seg = n
			checkValue(t, b, p, api.ErrArg)
		}
		for _, n := range beyond {
			p := good
			p.At = n
			checkValue(t, b, p, api.ErrArg)
			p.Len, p.Sum = 0, 0
			checkValue(t, b, p, api.ErrArg)
		}
		for _, n := range append(beyond, mostValue+1, mostValue+2) {
			p := good
			p.Len = n
			checkValue(t, b, p, api.ErrArg)
		}
		// R1: nor may the zero point be.
		checkValue(t, b, api.Point{}, api.ErrArg)
	}
}

// Se2: more bytes than a value may have are none's, though they are there and their sum fits.
func TestValueOfTooMany(t *testing.T) {
	b := bytesOf(mostValue + 10)
	checkValue(t, b, pointOf(b, 0, mostValue), api.OK)
	checkValue(t, b, pointOf(b, 10, mostValue), api.OK)
	checkValue(t, b, pointOf(b, 0, mostValue+1), api.ErrArg)
	checkValue(t, b, pointOf(b, 9, mostValue+1), api.ErrArg)
}

// Se2: what ends just at the end of the bytes, and one byte behind it.
func TestValueToTheEnd(t *testing.T) {
	for _, n := range []int{0, 1, 3, 127, 128, 300, mostValue} {
		for _, at := range []int{0, 1, 2, 3, 500} {
			b := bytesOf(at + n)
			p := pointOf(b, at, n)
			checkValue(t, b, p, api.OK)
			checkValue(t, slices.Clip(slices.Clone(b)), p, api.OK)
			checkValue(t, append(slices.Clone(b), 1), p, api.OK)
			if len(b) == 0 {
				continue
			}
			// The byte behind the end is there in memory, but none of these.
			checkValue(t, b[:len(b)-1], p, api.ErrNone)
			checkValue(t, slices.Clip(slices.Clone(b[:len(b)-1])), p, api.ErrNone)
			if n > 0 {
				checkValue(t, b[:at], p, api.ErrNone)
			}
			checkValue(t, nil, p, api.ErrNone)
		}
	}
}

// Se2: a value of no bytes stands at any place up to the end.
func TestValueOfNoBytes(t *testing.T) {
	b := plainBytes([]byte{7, 8, 9}, nil)
	for at := range len(b) + 1 {
		checkValue(t, b, api.Point{Seg: 1, At: at}, api.OK)
		for _, sum := range []uint32{1, 1 << 31, math.MaxUint32} {
			checkValue(t, b, api.Point{Seg: 1, At: at, Sum: sum}, api.ErrNone)
		}
	}
	for _, at := range []int{len(b) + 1, len(b) + 2, 1 << 22, mostCount - 1, mostCount} {
		checkValue(t, b, api.Point{Seg: 1, At: at}, api.ErrNone)
		checkValue(t, b, api.Point{Seg: 1, At: at, Len: 1}, api.ErrNone)
		checkValue(t, b, api.Point{Seg: 1, At: at, Len: mostValue}, api.ErrNone)
	}
	checkValue(t, nil, api.Point{Seg: 1}, api.OK)
	checkValue(t, nil, api.Point{Seg: 1, At: 1}, api.ErrNone)
}

// Se2: what does not fit: another sum, another Len, another place.
func TestValueThatDoesNotFit(t *testing.T) {
	b := plainBytes(bytesOf(3), bytesOf(128), bytesOf(300), []byte{7})
	points, _ := plainWalk(8, b)
	for _, p := range points {
		checkValue(t, b, p, api.OK)
		for bit := range 32 {
			other := p
			other.Sum ^= 1 << bit
			checkValue(t, b, other, api.ErrNone)
		}
		for _, by := range []int{-1, 1, 2} {
			other := p
			other.Len += by
			if other.Len >= 0 {
				checkValue(t, b, other, api.ErrNone)
			}
			other = p
			other.At += by
			checkValue(t, b, other, api.ErrNone)
		}
	}
}

// Se2: each bit of a value counts; what stands around it is not asked for.
func TestValueOfTurnedBits(t *testing.T) {
	b := plainBytes(bytesOf(5), bytesOf(20), bytesOf(5))
	points, _ := plainWalk(8, b)
	p := points[1]
	for bit := range len(b) * 8 {
		wrong := slices.Clone(b)
		wrong[bit/8] ^= 1 << (bit % 8)
		want := api.OK
		if bit/8 >= p.At && bit/8 < p.At+p.Len {
			want = api.ErrNone
		}
		checkValue(t, wrong, p, want)
	}
}

// Se2: no bound but the point's: bytes beyond what a segment's may be are asked likewise.
func TestValueInManyBytes(t *testing.T) {
	b := make([]byte, mostBytes+mostValue+5)
	copy(b[mostBytes+5:], bytesOf(mostValue))
	checkValue(t, b, pointOf(b, mostBytes+5, mostValue), api.OK)
	checkValue(t, b[:len(b)-1], pointOf(b, mostBytes+5, mostValue), api.ErrNone)
}

// Se2: points at random, of any place, also such as stand in no frame.
func TestValueAsWords(t *testing.T) {
	r := newSource()
	for range 5000 {
		b := plainBytes(someValues(r, r.Intn(4))...)
		at := r.Intn(len(b) + 2)
		p := api.Point{Seg: r.Intn(3), At: at - r.Intn(20)/19, Len: r.Intn(mostValue+2) >> r.Intn(13)}
		if plainMayBe(p) && p.At+p.Len <= len(b) {
			p.Sum = plainSum(b[p.At:][:p.Len])
		}
		if r.Intn(4) == 0 {
			p.Sum++
		}
		_, want := plainValue(b, p)
		checkValue(t, b, p, want)
	}
}
