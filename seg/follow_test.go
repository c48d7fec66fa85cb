package seg

import (
	"bytes"
	"slices"
	"testing"

	"garner/api"
)

// checkFollow asks whether Walk tells just these values of a segment's bytes, in order, each by a point that Value follows.
func checkFollow(t *testing.T, seg int, b []byte, l [][]byte, size int) {
	t.Helper()
	points, got := Walk(seg, b)
	if len(points) != len(l) || got != size {
		t.Fatalf("Walk of %d bytes: %d points, %d bytes; want %d, %d", len(b), len(points), got, len(l), size)
	}
	for i, p := range points {
		value, err := Value(b, p)
		if err != api.OK || !bytes.Equal(value, l[i]) || p.Seg != seg {
			t.Fatalf("Value of the point %v: %d bytes, %d; want %d bytes", p, len(value), err, len(l[i]))
		}
	}
}

// Se3: of what is put each value is told, whatever stands behind.
func TestPutIsWalked(t *testing.T) {
	r := newSource()
	for range 300 {
		l := someValues(r, r.Intn(12))
		b, err := Put(l...)
		if err != api.OK {
			t.Fatal(err)
		}
		seg := 1 + r.Intn(mostCount)>>r.Intn(31)
		checkFollow(t, seg, b, l, len(b))
		for _, behind := range [][]byte{{0}, {255}, {2, 2, 2}, make([]byte, 40), plainFrame(1, []byte{7}), plainBytes(make([]byte, 5000)), plainBytes(bytesOf(9))[:12]} {
			checkFollow(t, seg, slices.Concat(b, behind), l, len(b))
		}
		more := someValues(r, 1+r.Intn(3))
		b2, _ := Put(more...)
		checkFollow(t, seg, slices.Concat(b, b2), slices.Concat(l, more), len(b)+len(b2))
	}
}

// Se3: values alike, and such as are frames themselves, are told as they were put.
func TestPutOfFramesIsWalked(t *testing.T) {
	inner, _ := Put([]byte{7}, nil)
	outer, _ := Put(inner, []byte{7}, []byte{7})
	l := [][]byte{outer, inner, outer, {7}, inner, nil, nil}
	b, err := Put(l...)
	if err != api.OK {
		t.Fatal(err)
	}
	checkFollow(t, 6, b, l, len(b))
}

// Se3: Next tells ahead the point that Walk tells then, and Value follows it.
func TestNextIsWalked(t *testing.T) {
	r := newSource()
	for range 300 {
		seg := 1 + r.Intn(mostCount)>>r.Intn(31)
		var b []byte
		var ahead []api.Point
		for _, value := range someValues(r, 1+r.Intn(12)) {
			p, err := Next(seg, len(b), value)
			if err != api.OK {
				t.Fatal(err)
			}
			one, _ := Put(value)
			b = append(b, one...)
			if got, err := Value(b, p); err != api.OK || !bytes.Equal(got, value) {
				t.Fatalf("Value of Next's point %v: %d bytes, %d", p, len(got), err)
			}
			ahead = append(ahead, p)
		}
		if points, size := Walk(seg, b); !slices.Equal(points, ahead) || size != len(b) {
			t.Fatalf("Walk tells %v, %d; Next told %v, %d", points, size, ahead, len(b))
		}
	}
}

// Se3: of each beginning just the values that end within are told.
func TestBeginnings(t *testing.T) {
	r := newSource()
	for range 20 {
		l := someValues(r, 1+r.Intn(4))
		b, _ := Put(l...)
		within, size := 0, 0
		for end := range len(b) + 1 {
			if within < len(l) && end == size+len(plainBytes(l[within])) {
				size = end
				within++
			}
			points, got := Walk(3, b[:end])
			if len(points) != within || got != size {
				t.Fatalf("Walk of %d bytes: %d points, %d bytes; want %d, %d", end, len(points), got, within, size)
			}
			if end == size {
				checkFollow(t, 3, b[:end], l[:within], size)
			}
		}
		if within != len(l) {
			t.Fatalf("%d of %d values end within", within, len(l))
		}
	}
}

// Se3: as many bytes as a segment has at most.
func TestPutOfAllIsWalked(t *testing.T) {
	l := append(slices.Repeat([][]byte{bytesOf(mostValue)}, 1022), bytesOf(1031))
	b, err := Put(l...)
	if err != api.OK || len(b) != mostBytes {
		t.Fatalf("Put: %d bytes, %d", len(b), err)
	}
	checkFollow(t, 1, b, l, mostBytes)
}
