package seg

import (
	"bytes"
	"math"
	"slices"
	"testing"

	"garner/api"
)

// withTail is b as a part of longer memory, whose rest a call must leave as it is.
func withTail(b []byte) (part, whole []byte) {
	whole = append(slices.Clone(b), 1, 2, 3, 4, 5, 6, 7, 8)
	return whole[:len(b)], whole
}

// spoil turns all that can be reached from b.
func spoil(b []byte) {
	for i := range b[:cap(b)] {
		b[:cap(b)][i] ^= 255
	}
}

// R3: Put and Next write neither to their values, nor behind them, nor to the list.
func TestValuesAreNotWritten(t *testing.T) {
	r := newSource()
	for range 500 {
		list := someValues(r, 6)
		kept := cloneValues(list)
		part := list[:r.Intn(7)]
		Put(part...)
		value, whole := withTail(someValue(r))
		keptWhole := slices.Clone(whole)
		Put(value)
		Put(value, whole, make([]byte, mostValue+1))
		Next(1, 0, value)
		Next(0, -1, value)
		if !sameValues(list, kept) || !bytes.Equal(whole, keptWhole) {
			t.Fatal("a call wrote to its values")
		}
	}
}

// R3: Walk and Value write neither to their bytes, nor behind them.
func TestBytesAreNotWritten(t *testing.T) {
	r := newSource()
	for range 500 {
		b := plainBytes(someValues(r, 1+r.Intn(3))...)
		part, whole := withTail(b[:r.Intn(len(b)+1)])
		kept := slices.Clone(whole)
		points, _ := Walk(2, part)
		for _, p := range points {
			Value(part, p)
			p.Sum++
			Value(part, p)
		}
		Value(part, api.Point{Seg: 1, At: len(part)})
		Walk(0, part)
		if !bytes.Equal(whole, kept) {
			t.Fatal("a call wrote to its bytes")
		}
	}
}

// R3: what Put tells is no part of what was handed in, nor of another answer.
func TestPutIsNew(t *testing.T) {
	r := newSource()
	for range 200 {
		l := someValues(r, 1+r.Intn(5))
		kept := cloneValues(l)
		first, _ := Put(l...)
		second, _ := Put(l...)
		spoil(first)
		if !sameValues(l, kept) {
			t.Fatal("what Put tells is a part of its values")
		}
		for _, value := range l {
			spoil(value)
		}
		if !bytes.Equal(second, plainBytes(kept...)) {
			t.Fatal("what Put tells shares memory")
		}
	}
}

// R3: what Value tells is no part of the bytes, nor of another answer.
func TestValueIsNew(t *testing.T) {
	r := newSource()
	for range 200 {
		l := someValues(r, 1+r.Intn(3))
		b, _ := withTail(plainBytes(l...))
		kept := slices.Clone(b[:cap(b)])
		points, _ := plainWalk(2, b)
		var second [][]byte
		for _, p := range points {
			first, _ := Value(b, p)
			value, _ := Value(b, p)
			second = append(second, value)
			spoil(first)
		}
		if !bytes.Equal(b[:cap(b)], kept) {
			t.Fatal("what Value tells is a part of its bytes")
		}
		spoil(b)
		if !sameValues(second, l) {
			t.Fatal("what Value tells shares memory")
		}
	}
}

// R3: what Walk tells is no part of another answer, and does not hang on the bytes any more.
func TestWalkIsNew(t *testing.T) {
	b := plainBytes(bytesOf(3), nil, bytesOf(200))
	want, _ := plainWalk(2, b)
	first, _ := Walk(2, b)
	second, _ := Walk(2, b)
	for i := range first[:cap(first)] {
		first[:cap(first)][i] = api.Point{Seg: -1}
	}
	spoil(b)
	if !slices.Equal(second, want) {
		t.Error("what Walk tells shares memory")
	}
}

// R4: the same answers, again and again, whatever the memory around the bytes is.
func TestSameAgain(t *testing.T) {
	r := newSource()
	for range 500 {
		l := someValues(r, r.Intn(4))
		a, err := Put(l...)
		b, err2 := Put(cloneValues(l)...)
		if err != err2 || !bytes.Equal(a, b) {
			t.Fatal("Put answers otherwise")
		}
		part, _ := withTail(a[:r.Intn(len(a)+1)])
		clipped := slices.Clip(slices.Clone(part))
		points, size := Walk(4, part)
		points2, size2 := Walk(4, clipped)
		if !slices.Equal(points, points2) || size != size2 {
			t.Fatal("Walk answers otherwise")
		}
		for _, p := range append(points, api.Point{Seg: 1, At: len(part)}, api.Point{Seg: 1, At: len(part), Len: 1}) {
			value, err := Value(part, p)
			value2, err2 := Value(clipped, p)
			if err != err2 || !bytes.Equal(value, value2) {
				t.Fatal("Value answers otherwise")
			}
		}
		long, _ := withTail(someValue(r))
		p, err := Next(4, size, long)
		p2, err2 := Next(4, size, slices.Clip(slices.Clone(long)))
		if p != p2 || err != err2 {
			t.Fatal("Next answers otherwise")
		}
	}
}

// R5: a value of no bytes, and no value, are the same.
func TestNoBytes(t *testing.T) {
	a, _ := Put(nil, []byte{}, make([]byte, 0, 9))
	b, _ := Put([]byte{}, nil, nil)
	if !bytes.Equal(a, b) {
		t.Errorf("% x, % x", a, b)
	}
	p, err := Next(1, 6, nil)
	p2, err2 := Next(1, 6, make([]byte, 0, 9))
	if p != p2 || err != err2 {
		t.Errorf("%v, %d; %v, %d", p, err, p2, err2)
	}
	for _, b := range [][]byte{nil, {}, make([]byte, 0, 9)} {
		checkWalk(t, 1, b, 0, 0)
		checkValue(t, b, api.Point{Seg: 1}, api.OK)
	}
}

// P1: whatever is handed in, calls end, and answer as the words say.
func TestGreatArguments(t *testing.T) {
	for _, b := range [][]byte{
		make([]byte, mostBytes),
		bytes.Repeat([]byte{2}, mostBytes),
		bytes.Repeat([]byte{128}, mostBytes),
		bytes.Repeat([]byte{255}, mostBytes),
		make([]byte, 1<<24),
	} {
		checkAsWords(t, 1, b)
		checkAsWords(t, math.MinInt, b)
		checkPut(t, [][]byte{b}, api.ErrBig)
		checkPut(t, [][]byte{nil, b, b}, api.ErrBig)
		checkNext(t, 1, 0, b, api.ErrBig)
		checkValue(t, b, api.Point{Seg: 1, At: mostCount, Len: mostValue}, api.ErrNone)
		checkValue(t, b, api.Point{Seg: math.MaxInt, At: math.MaxInt, Len: math.MaxInt}, api.ErrArg)
		checkValue(t, b, api.Point{Seg: math.MinInt, At: math.MinInt, Len: math.MinInt}, api.ErrArg)
	}
}

func BenchmarkPut(b *testing.B) {
	l := slices.Repeat([][]byte{bytesOf(1000)}, 1000)
	for b.Loop() {
		Put(l...)
	}
}

func BenchmarkWalk(b *testing.B) {
	whole, _ := full()
	for b.Loop() {
		Walk(1, whole)
	}
}
