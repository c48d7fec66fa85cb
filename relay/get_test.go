package relay

import (
	"encoding/binary"
	"math"
	"math/rand"
	"slices"
	"testing"

	"garner/api"
)

// checkGet asks Get for what the words say, with that error.
func checkGet(t *testing.T, b []byte, want api.Errno) {
	t.Helper()
	wantSeg, wantHops, wantErr := plainGet(b)
	if wantErr != want {
		t.Fatalf("the words say %d of %d bytes, not %d", wantErr, len(b), want)
	}
	seg, l, err := Get(b)
	if seg != wantSeg || !slices.Equal(l, wantHops) || err != want {
		t.Fatalf("Get of %d bytes = %d, %d hops, %d; want %d, %d, %d", len(b), seg, len(l), err, wantSeg, len(wantHops), want)
	}
	if want != api.OK && l != nil {
		t.Fatalf("Get of %d bytes: hops beside the error", len(b))
	}
}

// Re1: what is put is got.
func TestGetOfPut(t *testing.T) {
	r := newSource()
	for range 2000 {
		seg := 1 + someNumber(r, mostCount-2)
		want := someHops(r, seg, r.Intn(12))
		b, err := Put(seg, want)
		if err != api.OK {
			t.Fatal(err)
		}
		got, l, err := Get(b)
		if got != seg || !slices.Equal(l, want) || err != api.OK {
			t.Fatalf("Get = %d, %v, %d; want %d, %v", got, l, err, seg, want)
		}
	}
	for _, seg := range []int{1, mostCount} {
		checkGet(t, plainMove(seg, nil), api.OK)
	}
	for _, n := range []int{1000, 1001, 16384} {
		b, _ := Put(1, rising(n, 2))
		if seg, l, err := Get(b); seg != 1 || !slices.Equal(l, rising(n, 2)) || err != api.OK {
			t.Fatalf("Get of %d hops: %d, %d hops, %d", n, seg, len(l), err)
		}
	}
}

// someMoves are moves whose bytes are spoilt at every place.
func someMoves() [][]byte {
	r := newSource()
	l := [][]byte{plainMove(1, nil), plainMove(mostCount, nil), plainMove(1, rising(1, 2)), plainMove(130, rising(9, 131))}
	for range 6 {
		seg := 1 + someNumber(r, mostCount-2)
		l = append(l, plainMove(seg, someHops(r, seg, 6)))
	}
	return l
}

// Re1: bytes that are cut short, at any place.
func TestGetCut(t *testing.T) {
	for _, b := range someMoves() {
		for n := range b {
			checkGet(t, b[:n], api.ErrText)
		}
		checkGet(t, b, api.OK)
	}
	checkGet(t, nil, api.ErrText)
	checkGet(t, []byte{}, api.ErrText)
}

// Re1: bytes with more behind.
func TestGetMore(t *testing.T) {
	for _, b := range someMoves() {
		for more := range 256 {
			checkGet(t, append(slices.Clone(b), byte(more)), api.ErrText)
		}
		checkGet(t, slices.Concat(b, b), api.ErrText)
		checkGet(t, slices.Concat(b, plainFrame(1, nil)), api.ErrText)
		checkGet(t, slices.Concat([]byte{0}, b), api.ErrText)
	}
}

// Re1: bytes of which one is turned.
func TestGetTurned(t *testing.T) {
	for _, b := range someMoves() {
		for i := range b {
			for x := 1; x < 256; x++ {
				turned := slices.Clone(b)
				turned[i] ^= byte(x)
				checkGet(t, turned, api.ErrText)
			}
		}
	}
}

// Re1: a frame of another Kind.
func TestGetKinds(t *testing.T) {
	body := plainBody(1, 2, rising(2, 2))
	for kind := range 256 {
		want := api.ErrText
		if kind == moveKind {
			want = api.OK
		}
		checkGet(t, plainFrame(kind, body), want)
	}
}

// checkBody asks Get for a Body that is no move's, in a frame that is as it should be.
func checkBody(t *testing.T, body []byte) {
	t.Helper()
	checkGet(t, plainFrame(moveKind, body), api.ErrText)
}

// Re1: a Body that ends within, or has bytes behind.
func TestGetBodyCut(t *testing.T) {
	body := plainBody(300, 3, rising(3, 301))
	for n := range body {
		checkBody(t, body[:n])
	}
	for more := range 256 {
		checkBody(t, append(slices.Clone(body), byte(more)))
		checkBody(t, append(plainBody(300, 0, nil), byte(more)))
	}
	checkGet(t, plainFrame(moveKind, body), api.OK)
}

// Re1: numbers with more bytes than they need.
func TestGetLongNumbers(t *testing.T) {
	// Of one hop, below 128 all: place by place the numbers of the Body.
	body := plainBody(1, 1, []api.Hop{{At: 2, To: api.Point{Seg: 3, At: 9, Len: 5, Sum: 7}}})
	for i := range 6 {
		for _, more := range [][]byte{{0}, {128, 0}, {128, 128, 128, 0}} {
			long := slices.Concat(body[:i], []byte{body[i] | 128}, more, body[i+1:])
			checkBody(t, long)
		}
	}
	long := append(binary.AppendUvarint(nil, uint64(len(body))|128), 0)
	checkGet(t, slices.Concat(long, plainFrame(moveKind, body)[1:]), api.ErrText)
}

// Re1: numbers that are too great, also such as come to one that may be where bits are lost.
func TestGetGreatNumbers(t *testing.T) {
	small := []uint64{1, 1, 2, 3, 9, 5}
	for i := range small {
		for _, great := range []uint64{mostCount + 1, 1<<32 + small[i], 1<<32 | 1<<31 | small[i], 1<<63 + small[i], math.MaxUint64} {
			numbers := slices.Clone(small)
			numbers[i] = great
			var body []byte
			for _, u := range numbers {
				body = binary.AppendUvarint(body, u)
			}
			checkBody(t, append(body, 0, 0, 0, 0))
		}
	}
	checkGet(t, plainFrame(moveKind, append([]byte{1, 1, 2, 3, 9, 5}, 0, 0, 0, 0)), api.OK)
}

// Re1: a Body that tells of more hops than there are, or of fewer.
func TestGetCounts(t *testing.T) {
	for n := range 6 {
		for count := range 9 {
			b := plainFrame(moveKind, plainBody(1, uint64(count), rising(n, 2)))
			want := api.ErrText
			if count == n {
				want = api.OK
			}
			checkGet(t, b, want)
		}
		for _, count := range []uint64{16384, 16385, mostCount, 1 << 31, 1 << 32, 1<<32 + uint64(n), 1 << 63, 1<<63 + uint64(n), math.MaxUint64} {
			checkBody(t, plainBody(1, count, rising(n, 2)))
		}
	}
	checkGet(t, plainFrame(moveKind, plainBody(1, 16384, rising(16384, 2))), api.OK)
	checkBody(t, plainBody(1, 16385, rising(16385, 2)))
	checkBody(t, plainBody(1, 16384, rising(16385, 2)))
	checkBody(t, plainBody(1, 16385, rising(16384, 2)))
}

// Re1: hops that may not be.
func TestGetHopsThatMayNotBe(t *testing.T) {
	for _, places := range [][]int{{0, 0}, {5, 4}, {1, 2, 2}, {1, 3, 2}, {3, 1, 2}, {mostCount, mostCount}, {mostCount + 1}, {3, mostCount + 1}} {
		l := atPlaces(places)
		checkBody(t, plainBody(1, uint64(len(l)), l))
	}
	for _, to := range []api.Point{{Seg: 7}, {Seg: 6}, {Seg: 0}, {Seg: mostCount + 1}, {Seg: 8, At: mostCount + 1}, {Seg: 8, Len: 4097}} {
		checkBody(t, plainBody(7, 1, []api.Hop{{At: 1, To: to}}))
		checkBody(t, plainBody(7, 2, []api.Hop{{At: 1, To: api.Point{Seg: 8}}, {At: 2, To: to}}))
	}
	for _, seg := range []int{0, mostCount + 1, math.MinInt, -1} {
		checkBody(t, plainBody(seg, 0, nil))
		checkBody(t, plainBody(seg, 1, rising(1, mostCount)))
	}
	checkBody(t, plainBody(mostCount, 1, rising(1, mostCount)))
	checkGet(t, plainFrame(moveKind, plainBody(mostCount-1, 1, rising(1, mostCount))), api.OK)
}

// spoilBody turns, takes out, or puts in some bytes.
func spoilBody(r *rand.Rand, body []byte) []byte {
	b := slices.Clone(body)
	for range 1 + r.Intn(2) {
		if len(b) == 0 {
			return b
		}
		i := r.Intn(len(b))
		switch r.Intn(3) {
		case 0:
			b[i] ^= 1 << r.Intn(8)
		case 1:
			b = slices.Delete(b, i, i+1)
		case 2:
			b = slices.Insert(b, i, byte(r.Intn(256)>>r.Intn(8)))
		}
	}
	return b
}

// Re1: as the words say, of many a Body that is spoilt in a frame that is as it should be.
func TestGetAsWords(t *testing.T) {
	r := newSource()
	got := map[api.Errno]int{}
	for range 20000 {
		seg := 1 + someNumber(r, mostCount-2)
		l := someHops(r, seg, r.Intn(4))
		b := plainFrame(moveKind, spoilBody(r, plainBody(seg, uint64(len(l)), l)))
		_, _, want := plainGet(b)
		checkGet(t, b, want)
		got[want]++
	}
	if got[api.OK] < 1000 || got[api.ErrText] < 1000 {
		t.Errorf("too few of one kind: %v", got)
	}
}
