package point

import (
	"bytes"
	"math"
	"math/rand"
	"slices"
	"testing"

	"garner/api"
)

const (
	mostCount = 1<<31 - 1
	mostValue = 4096
)

func newSource() *rand.Rand { return rand.New(rand.NewSource(4)) }

// plainNumber goes by layer 2's words.
func plainNumber(u uint64) []byte {
	var b []byte
	for ; u >= 128; u /= 128 {
		b = append(b, byte(u%128)+128)
	}
	return append(b, byte(u))
}

// plainBytes goes by the chapter's words, and shares nothing with the package; it puts numbers that may not be, too.
func plainBytes(seg, at, size uint64, sum uint32) []byte {
	b := slices.Concat(plainNumber(seg), plainNumber(at), plainNumber(size))
	return append(b, byte(sum), byte(sum>>8), byte(sum>>16), byte(sum>>24))
}

func bytesOf(p api.Point) []byte {
	return plainBytes(uint64(p.Seg), uint64(p.At), uint64(p.Len), p.Sum)
}

func plainMayBe(p api.Point) bool {
	return p.Seg >= 1 && p.Seg <= mostCount && p.At >= 0 && p.At <= mostCount && p.Len >= 0 && p.Len <= mostValue
}

// The edges that the chapter names, those where a number's bytes grow, and what would be small again in 32 or 64 bits.
func countEdges() []int {
	return []int{math.MinInt, math.MinInt32, -128, -1, 0, 1, 2, 127, 128, 300, 16383, 16384, 1<<21 - 1, 1 << 21, 1<<28 - 1, 1 << 28, mostCount - 1, mostCount, mostCount + 1, 1 << 32, 1<<32 + 1, math.MaxInt}
}

func lengthEdges() []int {
	return []int{math.MinInt, -1, 0, 1, 127, 128, mostValue - 1, mostValue, mostValue + 1, 16384, mostCount, 1 << 32, math.MaxInt}
}

func sumEdges() []uint32 {
	return []uint32{0, 1, 4, 255, 256, 0x01020304, 0x80000000, math.MaxUint32}
}

func eachEdge(use func(p api.Point)) {
	for _, seg := range countEdges() {
		for _, at := range countEdges() {
			for _, size := range lengthEdges() {
				for _, sum := range sumEdges() {
					use(api.Point{Seg: seg, At: at, Len: size, Sum: sum})
				}
			}
		}
	}
}

func somePoint(r *rand.Rand) api.Point {
	return api.Point{
		Seg: 1 + r.Intn(mostCount)>>r.Intn(31),
		At:  r.Intn(mostCount) >> r.Intn(31),
		Len: r.Intn(mostValue+1) >> r.Intn(13),
		Sum: r.Uint32() >> r.Intn(32),
	}
}

// withTail is b as a part of longer memory, whose rest a call must leave as it is.
func withTail(b []byte) (part, whole []byte) {
	whole = append(slices.Clone(b), 1, 2, 3, 4, 5, 6, 7, 8)
	return whole[:len(b)], whole
}

// Po1: the chapter's example, and other bytes that are known.
func TestPutKnown(t *testing.T) {
	for _, c := range []struct {
		p    api.Point
		want []byte
	}{
		{api.Point{Seg: 1, At: 2, Len: 3, Sum: 4}, []byte{1, 2, 3, 4, 0, 0, 0}},
		{api.Point{Seg: 1}, []byte{1, 0, 0, 0, 0, 0, 0}},
		{api.Point{Seg: 300, At: 128, Len: 127, Sum: 0x01020304}, []byte{172, 2, 128, 1, 127, 4, 3, 2, 1}},
		{
			api.Point{Seg: mostCount, At: mostCount, Len: mostValue, Sum: math.MaxUint32},
			[]byte{255, 255, 255, 255, 7, 255, 255, 255, 255, 7, 128, 32, 255, 255, 255, 255},
		},
	} {
		if b, err := Put(c.p); err != api.OK || !bytes.Equal(b, c.want) {
			t.Errorf("Put(%v) = %v, %d; want %v", c.p, b, err, c.want)
		}
		if p, size, err := Get(c.want); err != api.OK || size != len(c.want) || p != c.p {
			t.Errorf("Get(%v) = %v, %d, %d; want %v", c.want, p, size, err, c.p)
		}
	}
}

// Po1: each field at its edges, the others as they may be.
func TestCheckKnown(t *testing.T) {
	for _, c := range []struct {
		p    api.Point
		want api.Errno
	}{
		{api.Point{}, api.ErrArg},
		{api.Point{Seg: 1}, api.OK},
		{api.Point{Seg: 0, At: 2, Len: 3, Sum: 4}, api.ErrArg},
		{api.Point{Seg: -1, At: 2, Len: 3, Sum: 4}, api.ErrArg},
		{api.Point{Seg: math.MinInt, At: 2, Len: 3, Sum: 4}, api.ErrArg},
		{api.Point{Seg: mostCount, At: 2, Len: 3, Sum: 4}, api.OK},
		{api.Point{Seg: mostCount + 1, At: 2, Len: 3, Sum: 4}, api.ErrArg},
		{api.Point{Seg: 1<<32 + 1, At: 2, Len: 3, Sum: 4}, api.ErrArg},
		{api.Point{Seg: math.MaxInt, At: 2, Len: 3, Sum: 4}, api.ErrArg},
		{api.Point{Seg: 1, At: 0, Len: 3, Sum: 4}, api.OK},
		{api.Point{Seg: 1, At: -1, Len: 3, Sum: 4}, api.ErrArg},
		{api.Point{Seg: 1, At: math.MinInt, Len: 3, Sum: 4}, api.ErrArg},
		{api.Point{Seg: 1, At: mostCount, Len: 3, Sum: 4}, api.OK},
		{api.Point{Seg: 1, At: mostCount + 1, Len: 3, Sum: 4}, api.ErrArg},
		{api.Point{Seg: 1, At: 1 << 32, Len: 3, Sum: 4}, api.ErrArg},
		{api.Point{Seg: 1, At: 2, Len: 0, Sum: 4}, api.OK},
		{api.Point{Seg: 1, At: 2, Len: -1, Sum: 4}, api.ErrArg},
		{api.Point{Seg: 1, At: 2, Len: mostValue, Sum: 4}, api.OK},
		{api.Point{Seg: 1, At: 2, Len: mostValue + 1, Sum: 4}, api.ErrArg},
		{api.Point{Seg: 1, At: 2, Len: 1 << 32, Sum: 4}, api.ErrArg},
		{api.Point{Seg: 1, At: 2, Len: 3, Sum: 0}, api.OK},
		{api.Point{Seg: 1, At: 2, Len: 3, Sum: math.MaxUint32}, api.OK},
		{api.Point{Seg: mostCount, At: mostCount, Len: mostValue, Sum: math.MaxUint32}, api.OK},
		{api.Point{Seg: -1, At: -1, Len: -1}, api.ErrArg},
	} {
		if err := Check(c.p); err != c.want {
			t.Errorf("Check(%v) = %d, want %d", c.p, err, c.want)
		}
	}
}

// Po1: Check and Put at all edges of all fields together.
func TestCheckAndPutAsTheWordsSay(t *testing.T) {
	eachEdge(func(p api.Point) {
		want, wantBytes := api.ErrArg, []byte(nil)
		if plainMayBe(p) {
			want, wantBytes = api.OK, bytesOf(p)
		}
		if err := Check(p); err != want {
			t.Fatalf("Check(%v) = %d, want %d", p, err, want)
		}
		if b, err := Put(p); err != want || !bytes.Equal(b, wantBytes) {
			t.Fatalf("Put(%v) = %v, %d; want %v, %d", p, b, err, wantBytes, want)
		}
	})
}

func checkGet(t *testing.T, b []byte, want api.Point, wantSize int, wantErr api.Errno) {
	t.Helper()
	if p, size, err := Get(b); p != want || size != wantSize || err != wantErr {
		t.Fatalf("Get(%v) = %v, %d, %d; want %v, %d, %d", b, p, size, err, want, wantSize, wantErr)
	}
}

func checkNone(t *testing.T, b []byte) {
	t.Helper()
	checkGet(t, b, api.Point{}, 0, api.ErrText)
}

// Po1, Po3: Get at all edges that may be, alone and with more bytes behind.
func TestGetAtEdges(t *testing.T) {
	eachEdge(func(p api.Point) {
		if !plainMayBe(p) {
			return
		}
		b := bytesOf(p)
		for _, behind := range [][]byte{nil, {0}, {255}, {128, 0}, b} {
			checkGet(t, slices.Concat(b, behind), p, len(b), api.OK)
		}
	})
}

// Po1: bytes that end within a number, or within the sum, or ahead of them.
func TestGetOfBeginnings(t *testing.T) {
	checkNone(t, nil)
	checkNone(t, []byte{})
	for _, p := range []api.Point{
		{Seg: 1},
		{Seg: 1, At: 2, Len: 3, Sum: 4},
		{Seg: 128, At: 16384, Len: 128, Sum: 0x80808080},
		{Seg: mostCount, At: mostCount, Len: mostValue, Sum: math.MaxUint32},
	} {
		b := bytesOf(p)
		for end := range b {
			checkNone(t, b[:end])
			checkNone(t, slices.Clip(slices.Clone(b[:end])))
		}
	}
}

// Po1: a number that is none, at each of the three places.
func TestGetOfNoNumbers(t *testing.T) {
	for _, bad := range [][]byte{
		{128, 0},
		{129, 0},
		{255, 128, 0},
		{128, 128, 128, 128, 0},
		append(bytes.Repeat([]byte{255}, 9), 2),
		append(bytes.Repeat([]byte{129}, 9), 129, 1),
		bytes.Repeat([]byte{255}, 30),
	} {
		sum := []byte{1, 2, 3, 4, 5, 6, 7}
		checkNone(t, slices.Concat(bad, []byte{1, 1}, sum))
		checkNone(t, slices.Concat([]byte{1}, bad, []byte{1}, sum))
		checkNone(t, slices.Concat([]byte{1, 1}, bad, sum))
	}
}

// Po1: numbers of a point that may not be, also such as would be small again in 32 bits, or below 0 in 64.
func TestGetOfWrongNumbers(t *testing.T) {
	great := []uint64{mostCount + 1, mostCount + 2, 1 << 32, 1<<32 + 1, 1<<32 + mostValue, 1<<63 - 1, 1 << 63, 1<<63 + 1, math.MaxUint64}
	for _, seg := range append(great, 0) {
		checkNone(t, plainBytes(seg, 2, 3, 4))
		checkNone(t, plainBytes(seg, 0, 0, 0))
	}
	for _, at := range great {
		checkNone(t, plainBytes(1, at, 3, 4))
		checkNone(t, plainBytes(mostCount, at, mostValue, 4))
	}
	for _, size := range append(great, mostValue+1, mostValue+2, 1<<14, mostCount) {
		checkNone(t, plainBytes(1, 2, size, 4))
		checkNone(t, append(plainBytes(mostCount, mostCount, size, 4), 1, 2, 3))
	}
}

// plainGet goes by the chapter's words: a point's bytes are those of which Put's words make them again.
func plainGet(b []byte) (api.Point, int, api.Errno) {
	var found [3]uint64
	at := 0
	for i := range found {
		for shift := 0; ; shift += 7 {
			if at == len(b) || shift > 35 {
				return api.Point{}, 0, api.ErrText
			}
			x := b[at]
			at++
			found[i] |= uint64(x%128) << shift
			if x < 128 {
				break
			}
		}
	}
	if len(b) < at+4 {
		return api.Point{}, 0, api.ErrText
	}
	sum := uint32(b[at]) + uint32(b[at+1])<<8 + uint32(b[at+2])<<16 + uint32(b[at+3])<<24
	p := api.Point{Seg: int(found[0]), At: int(found[1]), Len: int(found[2]), Sum: sum}
	if !plainMayBe(p) || !bytes.HasPrefix(b, bytesOf(p)) {
		return api.Point{}, 0, api.ErrText
	}
	return p, at + 4, api.OK
}

// mixedBytes are such that numbers of many sizes, and what is none, come up.
func mixedBytes(r *rand.Rand, n int) []byte {
	palette := []byte{0, 1, 2, 7, 8, 31, 32, 33, 127, 128, 255}
	b := make([]byte, n)
	for i := range b {
		b[i] = byte(r.Intn(256))
		if r.Intn(2) == 0 {
			b[i] = palette[r.Intn(len(palette))]
		}
	}
	return b
}

// Po1: Get as the words say, of mixed bytes, and of points' bytes that are spoilt or cut.
func TestGetAsTheWordsSay(t *testing.T) {
	r := newSource()
	good := 0
	check := func(b []byte) {
		p, size, err := plainGet(b)
		checkGet(t, b, p, size, err)
		if err == api.OK {
			good++
		}
	}
	for range 30000 {
		check(mixedBytes(r, r.Intn(22)))
		b := bytesOf(somePoint(r))
		check(b[:r.Intn(len(b)+1)])
		b[r.Intn(len(b))] ^= 1 << r.Intn(8)
		check(append(b, mixedBytes(r, r.Intn(4))...))
	}
	if good < 10000 {
		t.Errorf("only %d of the bytes were a point's", good)
	}
}

// Po2: a lesser Seg, of one Seg a lesser At; Len and Sum count for nothing.
func TestLess(t *testing.T) {
	for _, c := range []struct {
		a, b api.Point
		want bool
	}{
		{api.Point{Seg: 1}, api.Point{Seg: 2}, true},
		{api.Point{Seg: 2}, api.Point{Seg: 1}, false},
		{api.Point{Seg: 1, At: 9, Len: 9, Sum: 9}, api.Point{Seg: 2}, true},
		{api.Point{Seg: 2}, api.Point{Seg: 1, At: 9, Len: 9, Sum: 9}, false},
		{api.Point{Seg: 1, At: 4}, api.Point{Seg: 1, At: 5}, true},
		{api.Point{Seg: 1, At: 5}, api.Point{Seg: 1, At: 4}, false},
		{api.Point{Seg: 1, At: 4, Len: 9, Sum: 9}, api.Point{Seg: 1, At: 5}, true},
		{api.Point{Seg: 1, At: 5}, api.Point{Seg: 1, At: 4, Len: 9, Sum: 9}, false},
		{api.Point{Seg: 3, At: 4, Len: 1}, api.Point{Seg: 3, At: 4, Len: 2}, false},
		{api.Point{Seg: 3, At: 4, Len: 2}, api.Point{Seg: 3, At: 4, Len: 1}, false},
		{api.Point{Seg: 3, At: 4, Sum: 1}, api.Point{Seg: 3, At: 4, Sum: 2}, false},
		{api.Point{Seg: 3, At: 4, Sum: 2}, api.Point{Seg: 3, At: 4, Sum: 1}, false},
		{api.Point{Seg: 3, At: 4}, api.Point{Seg: 3, At: 4}, false},
		{api.Point{}, api.Point{}, false},
		{api.Point{Seg: 1}, api.Point{Seg: mostCount}, true},
		{api.Point{Seg: 1, At: 0}, api.Point{Seg: 1, At: mostCount}, true},
		// Points that may not be are held against each other likewise, without a difference that might wrap round.
		{api.Point{Seg: -1}, api.Point{Seg: 0}, true},
		{api.Point{Seg: math.MinInt}, api.Point{Seg: math.MaxInt}, true},
		{api.Point{Seg: math.MaxInt}, api.Point{Seg: math.MinInt}, false},
		{api.Point{Seg: 1, At: math.MinInt}, api.Point{Seg: 1, At: math.MaxInt}, true},
		{api.Point{Seg: 1, At: math.MaxInt}, api.Point{Seg: 1, At: math.MinInt}, false},
	} {
		if got := Less(c.a, c.b); got != c.want {
			t.Errorf("Less(%v, %v) = %v", c.a, c.b, got)
		}
	}
}

// plainOrder puts each point ahead of the first of those that are there already and greater.
func plainOrder(l []api.Point) []api.Point {
	var ordered []api.Point
	for _, p := range l {
		at := slices.IndexFunc(ordered, func(q api.Point) bool {
			return q.Seg > p.Seg || q.Seg == p.Seg && q.At > p.At
		})
		if at < 0 {
			at = len(ordered)
		}
		ordered = slices.Insert(ordered, at, p)
	}
	return ordered
}

// Po2: no point, one, several; those of one Seg and At in the order of l, though unlike.
func TestOrderKnown(t *testing.T) {
	for _, c := range []struct{ l, want []api.Point }{
		{nil, nil},
		{[]api.Point{}, nil},
		{[]api.Point{{Seg: 1, At: 2, Len: 3, Sum: 4}}, []api.Point{{Seg: 1, At: 2, Len: 3, Sum: 4}}},
		{[]api.Point{{}}, []api.Point{{}}},
		{[]api.Point{{Seg: 2}, {Seg: 1, At: 5}}, []api.Point{{Seg: 1, At: 5}, {Seg: 2}}},
		{[]api.Point{{Seg: 1, At: 5}, {Seg: 2}}, []api.Point{{Seg: 1, At: 5}, {Seg: 2}}},
		{
			[]api.Point{{Seg: 3, At: 1}, {Seg: 1, At: 9}, {Seg: 2, At: 4}, {Seg: 1, At: 8}, {Seg: 3, At: 0}},
			[]api.Point{{Seg: 1, At: 8}, {Seg: 1, At: 9}, {Seg: 2, At: 4}, {Seg: 3, At: 0}, {Seg: 3, At: 1}},
		},
		{
			[]api.Point{{Seg: 1, At: 2, Len: 9}, {Seg: 1, At: 2, Len: 3}, {Seg: 1, At: 2, Sum: 7}, {Seg: 1, At: 2, Sum: 6}},
			[]api.Point{{Seg: 1, At: 2, Len: 9}, {Seg: 1, At: 2, Len: 3}, {Seg: 1, At: 2, Sum: 7}, {Seg: 1, At: 2, Sum: 6}},
		},
		{
			[]api.Point{{Seg: 2, Sum: 2}, {Seg: 1, Sum: 2}, {Seg: 2, Sum: 1}, {Seg: 1, Sum: 1}, {Seg: 2, Sum: 2}, {Seg: 1, Sum: 2}},
			[]api.Point{{Seg: 1, Sum: 2}, {Seg: 1, Sum: 1}, {Seg: 1, Sum: 2}, {Seg: 2, Sum: 2}, {Seg: 2, Sum: 1}, {Seg: 2, Sum: 2}},
		},
		{
			[]api.Point{{Seg: math.MaxInt}, {Seg: 0, At: -1}, {Seg: math.MinInt}, {Seg: 0, At: -2}},
			[]api.Point{{Seg: math.MinInt}, {Seg: 0, At: -2}, {Seg: 0, At: -1}, {Seg: math.MaxInt}},
		},
	} {
		if got := Order(c.l); !slices.Equal(got, c.want) {
			t.Errorf("Order(%v) = %v, want %v", c.l, got, c.want)
		}
	}
}

// crowd is n points of few places, so that many of them, unlike in Len and Sum, have one Seg and At.
func crowd(r *rand.Rand, n int) []api.Point {
	l := make([]api.Point, n)
	places := 1 + r.Intn(8)
	for i := range l {
		l[i] = api.Point{Seg: 1 + r.Intn(places), At: r.Intn(places), Len: r.Intn(100), Sum: uint32(i)}
	}
	return l
}

// Po2: Order as the words say, of short lists and of long ones.
func TestOrderAsTheWordsSay(t *testing.T) {
	r := newSource()
	check := func(l []api.Point) {
		got := Order(l)
		if !slices.Equal(got, plainOrder(l)) {
			t.Fatalf("Order(%v) = %v", l, got)
		}
		for i := 1; i < len(got); i++ {
			if Less(got[i], got[i-1]) {
				t.Fatalf("%v stands ahead of %v", got[i-1], got[i])
			}
		}
	}
	for range 500 {
		check(crowd(r, r.Intn(120)))
	}
	check(crowd(r, 3000))
	l := make([]api.Point, 300)
	for i := range l {
		l[i] = somePoint(r)
	}
	check(l)
}

// Po3: what is put is got, whatever stands behind.
func TestPutIsGot(t *testing.T) {
	r := newSource()
	for range 20000 {
		p := somePoint(r)
		b, err := Put(p)
		if err != api.OK || !bytes.Equal(b, bytesOf(p)) {
			t.Fatalf("Put(%v) = %v, %d", p, b, err)
		}
		checkGet(t, b, p, len(b), api.OK)
		checkGet(t, slices.Concat(b, mixedBytes(r, r.Intn(20))), p, len(b), api.OK)
	}
}

// Po3: several points, one behind the other, are got one by one.
func TestSeveralAreGot(t *testing.T) {
	r := newSource()
	var l []api.Point
	var b []byte
	for range 200 {
		p := somePoint(r)
		one, _ := Put(p)
		l, b = append(l, p), append(b, one...)
	}
	for _, p := range l {
		checkGet(t, b, p, len(bytesOf(p)), api.OK)
		b = b[len(bytesOf(p)):]
	}
	checkNone(t, b)
}

// R3: no call writes to what it is handed, nor behind its end.
func TestNothingIsWritten(t *testing.T) {
	r := newSource()
	for range 200 {
		l := crowd(r, r.Intn(60)+4)
		kept := slices.Clone(l)
		Order(l[:len(l)-2])
		Order(l)
		if !slices.Equal(l, kept) {
			t.Fatal("Order wrote to its points")
		}
		b := bytesOf(somePoint(r))
		part, whole := withTail(b[:r.Intn(len(b)+1)])
		keptBytes := slices.Clone(whole)
		Get(part)
		if !bytes.Equal(whole, keptBytes) {
			t.Fatal("Get wrote to its bytes")
		}
	}
}

// R3: what is told is no part of what was handed in, nor of other things told.
func TestAnswersAreNew(t *testing.T) {
	for _, l := range [][]api.Point{{{Seg: 2}, {Seg: 1}}, {{Seg: 1}, {Seg: 2}}, {{Seg: 1}}, make([]api.Point, 0, 3)} {
		kept, want := slices.Clone(l[:cap(l)]), plainOrder(l)
		first, second := Order(l), Order(l)
		first = first[:cap(first)]
		for i := range first {
			first[i] = api.Point{Seg: 99, At: 99}
		}
		if !slices.Equal(l[:cap(l)], kept) {
			t.Error("what Order tells is a part of its points")
		}
		for i := range l {
			l[i] = api.Point{Seg: 77}
		}
		if !slices.Equal(second, want) {
			t.Error("Order's answers share memory, with each other or with its points")
		}
	}
	p := api.Point{Seg: 1, At: 2, Len: 3, Sum: 4}
	a, _ := Put(p)
	b, _ := Put(p)
	clear(a[:cap(a)])
	if !bytes.Equal(b, []byte{1, 2, 3, 4, 0, 0, 0}) {
		t.Error("Put's answers share memory")
	}
}

// R4: the same answers, again and again, whatever the memory around the bytes is.
func TestSameAgain(t *testing.T) {
	r := newSource()
	for range 2000 {
		part, _ := withTail(mixedBytes(r, r.Intn(16)))
		p, size, err := Get(part)
		Get(mixedBytes(r, 12))
		checkGet(t, slices.Clip(slices.Clone(part)), p, size, err)
		l := crowd(r, r.Intn(40))
		if !slices.Equal(Order(l), Order(slices.Clip(slices.Clone(l)))) {
			t.Fatal("Order answers otherwise")
		}
	}
}

// R5: an empty list, or no list, are the same.
func TestNoListIsAnEmptyList(t *testing.T) {
	if len(Order(nil)) != 0 || len(Order([]api.Point{})) != 0 {
		t.Error("Order of nothing is something")
	}
	checkNone(t, nil)
	checkNone(t, []byte{})
}

func BenchmarkGet(b *testing.B) {
	list := bytesOf(api.Point{Seg: 300, At: 70000, Len: 4096, Sum: 0xE3069283})
	for b.Loop() {
		Get(list)
	}
}

func BenchmarkOrder(b *testing.B) {
	l := crowd(newSource(), 1000)
	for b.Loop() {
		Order(l)
	}
}
