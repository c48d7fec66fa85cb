package cell

import (
	"bytes"
	"hash/crc32"
	"math"
	"math/rand"
	"reflect"
	"slices"
	"testing"

	"garner/api"
	"garner/point"
	"garner/varint"
)

const (
	mostCount = 1<<31 - 1
	mostValue = 4096
	mostPlain = 32
)

func newSource() *rand.Rand { return rand.New(rand.NewSource(5)) }

// plainSum goes by the library's sum, and shares nothing with layer 1.
func plainSum(b []byte) uint32 { return crc32.Checksum(b, crc32.MakeTable(crc32.Castagnoli)) }

// pointBytes goes by layer 4's words; it puts numbers that may not be, too.
func pointBytes(seg, at, size uint64, sum uint32) []byte {
	return append(varint.Put(seg, at, size), byte(sum), byte(sum>>8), byte(sum>>16), byte(sum>>24))
}

func plainMayBe(c api.Cell) bool {
	if c.Far {
		return len(c.Bytes) == 0 && point.Check(c.Point) == api.OK
	}
	return len(c.Bytes) <= mostPlain && c.Point.Seg == 0 && c.Point.At == 0 && c.Point.Len == 0 && c.Point.Sum == 0
}

// bytesOf goes by the chapter's words; a number up to MaxPlain is one byte.
func bytesOf(c api.Cell) []byte {
	if c.Far {
		p := c.Point
		return append([]byte{1}, pointBytes(uint64(p.Seg), uint64(p.At), uint64(p.Len), p.Sum)...)
	}
	return append([]byte{0, byte(len(c.Bytes))}, c.Bytes...)
}

func plainSame(a, b api.Cell) bool {
	if len(a.Bytes) != len(b.Bytes) || a.Far != b.Far {
		return false
	}
	for i, x := range a.Bytes {
		if b.Bytes[i] != x {
			return false
		}
	}
	p, q := a.Point, b.Point
	return p.Seg == q.Seg && p.At == q.At && p.Len == q.Len && p.Sum == q.Sum
}

func isZero(c api.Cell) bool { return reflect.DeepEqual(c, api.Cell{}) }

func someBytes(r *rand.Rand, n int) []byte {
	b := make([]byte, n)
	for i := range b {
		b[i] = byte(r.Intn(256))
	}
	return b
}

func somePoint(r *rand.Rand) api.Point {
	return api.Point{
		Seg: 1 + r.Intn(mostCount)>>r.Intn(31),
		At:  r.Intn(mostCount) >> r.Intn(31),
		Len: r.Intn(mostValue+1) >> r.Intn(13),
		Sum: r.Uint32() >> r.Intn(32),
	}
}

// someCell is one that may be.
func someCell(r *rand.Rand) api.Cell {
	if r.Intn(2) == 0 {
		return api.Cell{Far: true, Point: somePoint(r)}
	}
	return api.Cell{Bytes: someBytes(r, r.Intn(mostPlain+1))}
}

// pointEdges are points at the edges of each field, those that may be and those that may not.
func pointEdges() []api.Point {
	var l []api.Point
	counts := []int{math.MinInt, -1, 0, 1, 127, 128, mostCount, mostCount + 1, 1<<32 + 1, math.MaxInt}
	for _, seg := range counts {
		for _, at := range counts {
			for _, size := range []int{math.MinInt, -1, 0, 1, mostValue, mostValue + 1, 1 << 32, math.MaxInt} {
				for _, sum := range []uint32{0, 1, math.MaxUint32} {
					l = append(l, api.Point{Seg: seg, At: at, Len: size, Sum: sum})
				}
			}
		}
	}
	return l
}

// loneFields are points of which one field alone is not nought.
func loneFields() []api.Point {
	return []api.Point{
		{Seg: 1}, {Seg: -1}, {Seg: mostCount}, {Seg: 1 << 32},
		{At: 1}, {At: -1}, {At: mostCount}, {At: 1 << 32},
		{Len: 1}, {Len: -1}, {Len: mostValue}, {Len: 1 << 32},
		{Sum: 1}, {Sum: 1 << 31}, {Sum: math.MaxUint32},
	}
}

// withTail is b as a part of longer memory, whose rest a call must leave as it is.
func withTail(b []byte) (part, whole []byte) {
	whole = append(slices.Clone(b), 1, 2, 3, 4, 5, 6, 7, 8)
	return whole[:len(b)], whole
}

func checkPut(t *testing.T, c api.Cell) {
	t.Helper()
	want, wantBytes := api.ErrArg, []byte(nil)
	if plainMayBe(c) {
		want, wantBytes = api.OK, bytesOf(c)
	}
	if err := Check(c); err != want {
		t.Fatalf("Check(%v) = %d, want %d", c, err, want)
	}
	if b, err := Put(c); err != want || !bytes.Equal(b, wantBytes) {
		t.Fatalf("Put(%v) = %v, %d; want %v, %d", c, b, err, wantBytes, want)
	}
}

func checkGet(t *testing.T, b []byte, want api.Cell) {
	t.Helper()
	c, size, err := Get(b)
	if err != api.OK || size != len(bytesOf(want)) || !plainSame(c, want) {
		t.Fatalf("Get(%v) = %v, %d, %d; want %v", b, c, size, err, want)
	}
}

func checkNone(t *testing.T, b []byte) {
	t.Helper()
	if c, size, err := Get(b); !isZero(c) || size != 0 || err != api.ErrText {
		t.Fatalf("Get(%v) = %v, %d, %d; want no cell", b, c, size, err)
	}
}

// Ce1: the chapter's example, and other bytes that are known.
func TestPutKnown(t *testing.T) {
	for _, c := range []struct {
		c    api.Cell
		want []byte
	}{
		{api.Cell{Bytes: []byte{7, 8}}, []byte{0, 2, 7, 8}},
		{api.Cell{}, []byte{0, 0}},
		{api.Cell{Bytes: []byte{0}}, []byte{0, 1, 0}},
		{api.Cell{Bytes: bytes.Repeat([]byte{9}, mostPlain)}, append([]byte{0, 32}, bytes.Repeat([]byte{9}, 32)...)},
		{api.Cell{Far: true, Point: api.Point{Seg: 1, At: 2, Len: 3, Sum: 4}}, []byte{1, 1, 2, 3, 4, 0, 0, 0}},
		{api.Cell{Far: true, Point: api.Point{Seg: 1}}, []byte{1, 1, 0, 0, 0, 0, 0, 0}},
		{
			api.Cell{Far: true, Point: api.Point{Seg: mostCount, At: mostCount, Len: mostValue, Sum: math.MaxUint32}},
			[]byte{1, 255, 255, 255, 255, 7, 255, 255, 255, 255, 7, 128, 32, 255, 255, 255, 255},
		},
	} {
		if b, err := Put(c.c); err != api.OK || !bytes.Equal(b, c.want) {
			t.Errorf("Put(%v) = %v, %d; want %v", c.c, b, err, c.want)
		}
		if err := Check(c.c); err != api.OK {
			t.Errorf("Check(%v) = %d", c.c, err)
		}
		checkGet(t, c.want, c.c)
	}
}

// Ce1: a cell that is not Far, by how many Bytes it has, and by its Point.
func TestNearCells(t *testing.T) {
	for _, n := range []int{0, 1, 2, mostPlain - 1, mostPlain, mostPlain + 1, mostPlain + 2, 127, 128, 256, 288, mostValue, 1 << 20} {
		c := api.Cell{Bytes: bytes.Repeat([]byte{200}, n)}
		want := api.OK
		if n > 32 {
			want = api.ErrArg
		}
		if err := Check(c); err != want {
			t.Errorf("Check of %d Bytes = %d, want %d", n, err, want)
		}
		checkPut(t, c)
		for _, p := range slices.Concat(loneFields(), pointEdges()) {
			c.Point = p
			if err := Check(c); err == api.OK && p != (api.Point{}) {
				t.Errorf("Check(%v) with %d Bytes = %d", p, n, err)
			}
			checkPut(t, c)
		}
	}
}

// Ce1: a cell that is Far, with Bytes and without, by its Point.
func TestFarCells(t *testing.T) {
	for _, p := range slices.Concat(loneFields(), pointEdges()) {
		for _, n := range []int{0, 1, mostPlain, mostPlain + 1} {
			c := api.Cell{Far: true, Bytes: make([]byte, n), Point: p}
			if err := Check(c); err == api.OK && n > 0 {
				t.Errorf("Check of a far cell with %d Bytes = %d", n, err)
			}
			checkPut(t, c)
		}
	}
	may := api.Point{Seg: 1, At: 2, Len: 3, Sum: 4}
	for _, c := range []struct {
		c    api.Cell
		want api.Errno
	}{
		{api.Cell{Far: true, Point: may}, api.OK},
		{api.Cell{Far: true, Point: may, Bytes: []byte{}}, api.OK},
		{api.Cell{Far: true, Point: may, Bytes: []byte{0}}, api.ErrArg},
		{api.Cell{Far: true, Point: may, Bytes: []byte{1, 2, 3}}, api.ErrArg},
		{api.Cell{Far: false, Point: may}, api.ErrArg},
		{api.Cell{Far: true}, api.ErrArg},
		{api.Cell{Far: true, Bytes: []byte{7}}, api.ErrArg},
		{api.Cell{Far: true, Point: api.Point{Seg: 1, Len: mostValue + 1}}, api.ErrArg},
	} {
		if err := Check(c.c); err != c.want {
			t.Errorf("Check(%v) = %d, want %d", c.c, err, c.want)
		}
	}
}

// edgeCells are cells that may be, at their edges.
func edgeCells() []api.Cell {
	var l []api.Cell
	for n := range mostPlain + 1 {
		l = append(l, api.Cell{Bytes: bytes.Repeat([]byte{byte(n)}, n)})
	}
	for _, p := range pointEdges() {
		if point.Check(p) == api.OK {
			l = append(l, api.Cell{Far: true, Point: p})
		}
	}
	return l
}

// Ce1, Ce3: a cell's bytes, alone and with more bytes behind.
func TestGetAtEdges(t *testing.T) {
	for _, c := range edgeCells() {
		b := bytesOf(c)
		for _, behind := range [][]byte{nil, {0}, {1}, {255}, {128, 0}, b, make([]byte, 5000)} {
			checkGet(t, slices.Concat(b, behind), c)
		}
	}
}

// Ce1: no byte, and bytes that end within the number, the Bytes or the point.
func TestGetOfBeginnings(t *testing.T) {
	checkNone(t, nil)
	checkNone(t, []byte{})
	checkNone(t, []byte{0})
	checkNone(t, []byte{1})
	for _, c := range edgeCells() {
		b := bytesOf(c)
		for end := range b {
			checkNone(t, b[:end])
			checkNone(t, slices.Clip(slices.Clone(b[:end])))
		}
	}
}

// Ce1: a first byte that is neither 0 nor 1, whatever stands behind it.
func TestGetOfOtherFirstBytes(t *testing.T) {
	for first := 2; first < 256; first++ {
		checkNone(t, []byte{byte(first)})
		for _, c := range []api.Cell{{}, {Bytes: []byte{7, 8}}, {Far: true, Point: api.Point{Seg: 1, At: 2, Len: 3, Sum: 4}}} {
			b := bytesOf(c)
			b[0] = byte(first)
			checkNone(t, b)
		}
	}
	// Bytes that have no first byte of their own.
	checkNone(t, []byte{2, 7, 8})
}

// Ce1: a number of Bytes that is none, or greater than MaxPlain, though as many follow.
func TestGetOfWrongNumbers(t *testing.T) {
	behind := make([]byte, 1<<15)
	for _, n := range []uint64{33, 34, 63, 64, 127, 128, 160, 255, 256, 256 + 2, 288, mostValue, 1 << 16, mostCount, 1 << 31, 1 << 32, 1<<32 + 2, 1<<63 - 1, 1 << 63, 1<<63 + 2, math.MaxUint64} {
		checkNone(t, slices.Concat([]byte{0}, varint.Put(n), behind))
		checkNone(t, slices.Concat([]byte{0}, varint.Put(n)))
	}
	for _, bad := range [][]byte{
		{128, 0},
		{130, 0},
		{160, 0},
		{130, 128, 0},
		{128, 128, 128, 128, 0},
		append(bytes.Repeat([]byte{128}, 9), 2),
		append(bytes.Repeat([]byte{128}, 10), 1),
		bytes.Repeat([]byte{255}, 30),
	} {
		checkNone(t, slices.Concat([]byte{0}, bad, behind))
		checkNone(t, slices.Concat([]byte{0}, bad))
	}
}

// Ce1: a point that may not be, or whose numbers are none.
func TestGetOfWrongPoints(t *testing.T) {
	great := []uint64{mostCount + 1, 1 << 32, 1<<32 + 1, 1 << 63, math.MaxUint64}
	behind := make([]byte, 40)
	check := func(point []byte) {
		t.Helper()
		checkNone(t, slices.Concat([]byte{1}, point))
		checkNone(t, slices.Concat([]byte{1}, point, behind))
	}
	for _, seg := range append(great, 0) {
		check(pointBytes(seg, 2, 3, 4))
	}
	for _, at := range great {
		check(pointBytes(1, at, 3, 4))
	}
	for _, size := range append(great, mostValue+1, mostCount) {
		check(pointBytes(1, 2, size, 4))
	}
	check([]byte{129, 0, 2, 3, 4, 0, 0, 0})
	check([]byte{1, 130, 0, 3, 4, 0, 0, 0})
	check([]byte{1, 2, 131, 0, 4, 0, 0, 0})
	check(bytes.Repeat([]byte{255}, 30))
}

// plainGet goes by the chapter's words: among all near cells that b might begin with the one whose bytes it begins with, else the far one of the point behind a 1.
func plainGet(b []byte) (api.Cell, int, api.Errno) {
	for n := 0; n <= mostPlain && 2+n <= len(b); n++ {
		if c := (api.Cell{Bytes: b[2 : 2+n]}); bytes.HasPrefix(b, bytesOf(c)) {
			return c, 2 + n, api.OK
		}
	}
	behind, one := bytes.CutPrefix(b, []byte{1})
	p, size, err := point.Get(behind)
	if !one || err != api.OK {
		return api.Cell{}, 0, api.ErrText
	}
	return api.Cell{Far: true, Point: p}, 1 + size, api.OK
}

// mixedBytes are such that cells of both kinds, and what is none, come up.
func mixedBytes(r *rand.Rand, n int) []byte {
	palette := []byte{0, 1, 2, 3, 8, 31, 32, 33, 127, 128, 255}
	b := someBytes(r, n)
	for i := range b {
		if r.Intn(2) == 0 {
			b[i] = palette[r.Intn(len(palette))]
		}
	}
	if n > 0 && r.Intn(4) > 0 {
		b[0] = byte(r.Intn(3))
	}
	return b
}

// Ce1: Get as the words say, of mixed bytes, and of cells' bytes that are spoilt or cut.
func TestGetAsTheWordsSay(t *testing.T) {
	r := newSource()
	far, near := 0, 0
	check := func(b []byte) {
		want, wantSize, wantErr := plainGet(b)
		c, size, err := Get(b)
		if err != wantErr || size != wantSize || !plainSame(c, want) {
			t.Fatalf("Get(%v) = %v, %d, %d; want %v, %d, %d", b, c, size, err, want, wantSize, wantErr)
		}
		if err != api.OK && !isZero(c) {
			t.Fatalf("Get(%v) = %v beside an error", b, c)
		}
		if err == api.OK && c.Far {
			far++
		} else if err == api.OK {
			near++
		}
	}
	for range 30000 {
		check(mixedBytes(r, r.Intn(40)))
		b := bytesOf(someCell(r))
		check(b[:r.Intn(len(b)+1)])
		b[r.Intn(len(b))] ^= 1 << r.Intn(8)
		check(append(b, mixedBytes(r, r.Intn(4))...))
	}
	if far < 5000 || near < 5000 {
		t.Errorf("only %d far and %d near cells came up", far, near)
	}
}

// Ce1: Check and Put of cells of all kinds, also such as may not be.
func TestCheckAndPutAsTheWordsSay(t *testing.T) {
	r := newSource()
	lone := loneFields()
	for range 20000 {
		c := someCell(r)
		checkPut(t, c)
		switch r.Intn(4) {
		case 0:
			c.Far = !c.Far
		case 1:
			c.Bytes = someBytes(r, r.Intn(40))
		case 2:
			c.Point = lone[r.Intn(len(lone))]
		case 3:
			c.Point = somePoint(r)
		}
		checkPut(t, c)
	}
}

// Ce2: Near by how many bytes a value has, and by plain.
func TestNear(t *testing.T) {
	r := newSource()
	plains := []int{math.MinInt, math.MinInt32, -33, -1, 0, 1, 2, 16, 31, 32, 33, 64, mostValue, 1<<32 - 1, 1 << 32, math.MaxInt}
	for _, plain := range plains {
		for _, n := range []int{0, 1, 2, 3, 15, 16, 17, 30, 31, 32, 33, 34, 63, 64, 65, mostValue, mostValue + 1, 1 << 16} {
			value := someBytes(r, n)
			c, ok := Near(value, plain)
			if want := n <= plain && n <= 32; ok != want {
				t.Errorf("Near of %d bytes, %d = %v", n, plain, ok)
			}
			if !ok && !isZero(c) {
				t.Errorf("Near of %d bytes, %d = %v, false", n, plain, c)
			}
			if ok && !plainSame(c, api.Cell{Bytes: value}) {
				t.Errorf("Near of %v, %d = %v", value, plain, c)
			}
			if ok && Check(c) != api.OK {
				t.Errorf("Near's %v may not be", c)
			}
		}
	}
}

// Ce2: the answers of Near that are known.
func TestNearKnown(t *testing.T) {
	for _, c := range []struct {
		value []byte
		plain int
		want  bool
	}{
		{nil, -1, false},
		{[]byte{}, -1, false},
		{nil, 0, true},
		{[]byte{}, 0, true},
		{[]byte{1}, 0, false},
		{[]byte{1}, 1, true},
		{[]byte{1, 2}, 1, false},
		{make([]byte, 32), 31, false},
		{make([]byte, 32), 32, true},
		{make([]byte, 32), 1000, true},
		{make([]byte, 33), 32, false},
		{make([]byte, 33), 33, false},
		{make([]byte, 33), 1000, false},
	} {
		if _, ok := Near(c.value, c.plain); ok != c.want {
			t.Errorf("Near of %d bytes, %d = %v", len(c.value), c.plain, ok)
		}
	}
}

// Ce2: Far at places that may be and that may not be.
func TestFar(t *testing.T) {
	r := newSource()
	counts := []int{math.MinInt, math.MinInt32, -1, 0, 1, 2, 127, 128, mostCount - 1, mostCount, mostCount + 1, 1 << 32, 1<<32 + 1, math.MaxInt}
	for _, n := range []int{0, 1, 2, mostPlain, mostPlain + 1, mostValue - 1, mostValue, mostValue + 1, 1 << 13, 1 << 16} {
		value := someBytes(r, n)
		for _, seg := range counts {
			for _, at := range counts {
				c, err := Far(seg, at, value)
				if seg < 1 || seg > mostCount || at < 0 || at > mostCount || n > mostValue {
					if err != api.ErrArg || !isZero(c) {
						t.Fatalf("Far(%d, %d, %d bytes) = %v, %d", seg, at, n, c, err)
					}
					continue
				}
				want := api.Cell{Far: true, Point: api.Point{Seg: seg, At: at, Len: n, Sum: plainSum(value)}}
				if err != api.OK || !plainSame(c, want) {
					t.Fatalf("Far(%d, %d, %d bytes) = %v, %d; want %v", seg, at, n, c, err, want)
				}
			}
		}
	}
}

// Ce2: the answers of Far that are known; a short value is told of likewise.
func TestFarKnown(t *testing.T) {
	for _, c := range []struct {
		seg, at int
		value   []byte
		want    api.Point
	}{
		{3, 9, nil, api.Point{Seg: 3, At: 9}},
		{3, 9, []byte{}, api.Point{Seg: 3, At: 9}},
		{1, 0, []byte("123456789"), api.Point{Seg: 1, At: 0, Len: 9, Sum: 0xE3069283}},
		{mostCount, mostCount, make([]byte, 32), api.Point{Seg: mostCount, At: mostCount, Len: 32, Sum: 0x8A9136AA}},
	} {
		got, err := Far(c.seg, c.at, c.value)
		if err != api.OK || !plainSame(got, api.Cell{Far: true, Point: c.want}) {
			t.Errorf("Far(%d, %d, %v) = %v, %d", c.seg, c.at, c.value, got, err)
		}
	}
}

// Ce2: a value fits by Len and Sum, and by them alone.
func TestFits(t *testing.T) {
	value := []byte("123456789")
	sum := uint32(0xE3069283)
	for _, c := range []struct {
		p     api.Point
		value []byte
		want  bool
	}{
		{api.Point{Seg: 1, At: 2, Len: 9, Sum: sum}, value, true},
		{api.Point{Seg: 7, At: 0, Len: 9, Sum: sum}, value, true},
		{api.Point{Len: 9, Sum: sum}, value, true},
		{api.Point{Seg: 1, Len: 8, Sum: sum}, value, false},
		{api.Point{Seg: 1, Len: 10, Sum: sum}, value, false},
		{api.Point{Seg: 1, Len: -9, Sum: sum}, value, false},
		{api.Point{Seg: 1, Len: 9 + 256, Sum: sum}, value, false},
		{api.Point{Seg: 1, Len: 9 + 1<<32, Sum: sum}, value, false},
		{api.Point{Seg: 1, Len: 9, Sum: sum + 1}, value, false},
		{api.Point{Seg: 1, Len: 9, Sum: sum ^ 1<<31}, value, false},
		{api.Point{Seg: 1, Len: 9}, value, false},
		{api.Point{Seg: 1, Len: 9, Sum: sum}, []byte("123456788"), false},
		{api.Point{Seg: 1, Len: 9, Sum: sum}, []byte("12345678"), false},
		{api.Point{Seg: 1, Len: 9, Sum: sum}, []byte("1234567890"), false},
		{api.Point{Seg: 1, Len: 9, Sum: sum}, nil, false},
		{api.Point{Seg: 1}, nil, true},
		{api.Point{Seg: 1}, []byte{}, true},
		{api.Point{}, nil, true},
		{api.Point{Seg: 1, Sum: 1}, nil, false},
		{api.Point{Seg: 1, Len: 1}, nil, false},
		{api.Point{Seg: 1, Len: -1}, nil, false},
		{api.Point{Seg: 1, Len: 0, Sum: plainSum([]byte{0})}, []byte{0}, false},
	} {
		if got := Fits(c.p, c.value); got != c.want {
			t.Errorf("Fits(%v, %q) = %v", c.p, c.value, got)
		}
	}
}

// Ce2: Fits of a value that is turned in one bit, or is longer or shorter.
func TestFitsAsTheWordsSay(t *testing.T) {
	r := newSource()
	for range 2000 {
		value := someBytes(r, 1+r.Intn(200))
		p := api.Point{Seg: 1 + r.Intn(9), At: r.Intn(9), Len: len(value), Sum: plainSum(value)}
		if !Fits(p, value) {
			t.Fatalf("%v does not fit %v", value, p)
		}
		if Fits(p, value[1:]) || Fits(p, append(slices.Clone(value), 0)) {
			t.Fatalf("a value of another length than %v fits %v", value, p)
		}
		value[r.Intn(len(value))] ^= 1 << r.Intn(8)
		if Fits(p, value) {
			t.Fatalf("%v fits %v", value, p)
		}
	}
}

// Ce2: cells alike, and unlike in one thing alone; also such as may not be.
func TestSameKnown(t *testing.T) {
	p := api.Point{Seg: 1, At: 2, Len: 3, Sum: 4}
	for _, c := range []struct {
		a, b api.Cell
		want bool
	}{
		{api.Cell{}, api.Cell{}, true},
		{api.Cell{}, api.Cell{Bytes: []byte{}}, true},
		{api.Cell{}, api.Cell{Far: true}, false},
		{api.Cell{}, api.Cell{Bytes: []byte{0}}, false},
		{api.Cell{}, api.Cell{Point: p}, false},
		{api.Cell{Bytes: []byte{7, 8}}, api.Cell{Bytes: []byte{7, 8}}, true},
		{api.Cell{Bytes: []byte{7, 8}}, api.Cell{Bytes: []byte{8, 7}}, false},
		{api.Cell{Bytes: []byte{7, 8}}, api.Cell{Bytes: []byte{7, 9}}, false},
		{api.Cell{Bytes: []byte{7, 8}}, api.Cell{Bytes: []byte{6, 8}}, false},
		{api.Cell{Bytes: []byte{7, 8}}, api.Cell{Bytes: []byte{7}}, false},
		{api.Cell{Bytes: []byte{7, 8}}, api.Cell{Bytes: []byte{7, 8, 0}}, false},
		{api.Cell{Bytes: []byte{7, 8}}, api.Cell{Far: true, Bytes: []byte{7, 8}}, false},
		{api.Cell{Far: true, Point: p}, api.Cell{Far: true, Point: p}, true},
		{api.Cell{Far: true, Point: p}, api.Cell{Far: true, Point: p, Bytes: []byte{}}, true},
		{api.Cell{Far: true, Point: p}, api.Cell{Far: false, Point: p}, false},
		{api.Cell{Far: true, Point: p}, api.Cell{Far: true, Point: p, Bytes: []byte{1}}, false},
		{api.Cell{Far: true, Point: p}, api.Cell{Far: true, Point: api.Point{Seg: 2, At: 2, Len: 3, Sum: 4}}, false},
		{api.Cell{Far: true, Point: p}, api.Cell{Far: true, Point: api.Point{Seg: 1, At: 3, Len: 3, Sum: 4}}, false},
		{api.Cell{Far: true, Point: p}, api.Cell{Far: true, Point: api.Point{Seg: 1, At: 2, Len: 4, Sum: 4}}, false},
		{api.Cell{Far: true, Point: p}, api.Cell{Far: true, Point: api.Point{Seg: 1, At: 2, Len: 3, Sum: 5}}, false},
		{api.Cell{Bytes: []byte{7}, Point: p}, api.Cell{Bytes: []byte{7}, Point: p}, true},
		{api.Cell{Bytes: []byte{7}, Point: p}, api.Cell{Bytes: []byte{7}}, false},
		{api.Cell{Bytes: make([]byte, 99)}, api.Cell{Bytes: make([]byte, 99)}, true},
	} {
		if Same(c.a, c.b) != c.want || Same(c.b, c.a) != c.want {
			t.Errorf("Same(%v, %v) is not %v both ways", c.a, c.b, c.want)
		}
	}
}

// Ce2: Same as the words say.
func TestSameAsTheWordsSay(t *testing.T) {
	r := newSource()
	few := func() api.Cell {
		return api.Cell{
			Far:   r.Intn(2) == 0,
			Bytes: make([]byte, r.Intn(2)),
			Point: api.Point{Seg: r.Intn(2), At: r.Intn(2), Len: r.Intn(2), Sum: uint32(r.Intn(2))},
		}
	}
	alike := 0
	for range 20000 {
		a, b := few(), few()
		if Same(a, b) != plainSame(a, b) {
			t.Fatalf("Same(%v, %v) = %v", a, b, Same(a, b))
		}
		if Same(a, b) {
			alike++
		}
	}
	if alike < 100 {
		t.Errorf("only %d were alike", alike)
	}
}

// Ce3: what is put is got, whatever stands behind.
func TestPutIsGot(t *testing.T) {
	r := newSource()
	for range 20000 {
		c := someCell(r)
		b, err := Put(c)
		if err != api.OK || !bytes.Equal(b, bytesOf(c)) {
			t.Fatalf("Put(%v) = %v, %d", c, b, err)
		}
		checkGet(t, b, c)
		b = slices.Concat(b, mixedBytes(r, r.Intn(60)))
		checkGet(t, b, c)
		if got, _, _ := Get(b); !Same(got, c) {
			t.Fatalf("%v is got as %v", c, got)
		}
	}
}

// Ce3: several cells, one behind the other, are got one by one.
func TestSeveralAreGot(t *testing.T) {
	r := newSource()
	var l []api.Cell
	var b []byte
	for range 200 {
		c := someCell(r)
		one, _ := Put(c)
		l, b = append(l, c), append(b, one...)
	}
	for _, c := range l {
		checkGet(t, b, c)
		b = b[len(bytesOf(c)):]
	}
	checkNone(t, b)
}

// Ce3: a value fits the point that Far told of it, also behind Put and Get.
func TestValueFitsItsPoint(t *testing.T) {
	r := newSource()
	check := func(value []byte) {
		c, err := Far(1+r.Intn(mostCount), r.Intn(mostCount), value)
		if err != api.OK || Check(c) != api.OK || !Fits(c.Point, value) {
			t.Fatalf("Far of %d bytes = %v, %d", len(value), c, err)
		}
		b, _ := Put(c)
		checkGet(t, b, c)
		if len(value) == 0 {
			return
		}
		other := slices.Clone(value)
		other[r.Intn(len(other))] ^= 1 << r.Intn(8)
		if Fits(c.Point, other) || Fits(c.Point, value[:len(value)-1]) {
			t.Fatalf("another value than %v fits %v", value, c.Point)
		}
	}
	for _, n := range []int{0, 1, mostPlain, mostPlain + 1, mostValue - 1, mostValue} {
		check(someBytes(r, n))
		check(make([]byte, n))
	}
	for range 2000 {
		check(someBytes(r, r.Intn(mostValue+1)>>r.Intn(13)))
	}
}

// R3: no call writes to what it is handed, nor behind its end.
func TestNothingIsWritten(t *testing.T) {
	r := newSource()
	for range 500 {
		part, whole := withTail(someBytes(r, r.Intn(40)))
		kept := slices.Clone(whole)
		c := api.Cell{Bytes: part}
		Check(c)
		Put(c)
		Near(part, r.Intn(40))
		Far(1, 2, part)
		Fits(api.Point{Seg: 1, Len: len(part)}, part)
		Same(c, api.Cell{Bytes: part})
		Get(part)
		if !bytes.Equal(whole, kept) {
			t.Fatal("a call wrote to its bytes")
		}
		b := bytesOf(someCell(r))
		part, whole = withTail(b[:r.Intn(len(b)+1)])
		kept = slices.Clone(whole)
		Get(part)
		if !bytes.Equal(whole, kept) {
			t.Fatal("Get wrote to its bytes")
		}
	}
}

// spoil turns all that can be reached from b.
func spoil(b []byte) {
	for i := range b[:cap(b)] {
		b[:cap(b)][i] ^= 255
	}
}

// R3: what is told is no part of what was handed in, nor of other things told.
func TestAnswersAreNew(t *testing.T) {
	for _, value := range [][]byte{{7, 8}, {7}, make([]byte, mostPlain), make([]byte, 0, 4)} {
		_, whole := withTail(value)
		part := whole[:len(value)]
		kept := slices.Clone(whole)
		first, _ := Near(part, mostPlain)
		second, _ := Near(part, mostPlain)
		put, _ := Put(api.Cell{Bytes: part})
		again, _ := Put(api.Cell{Bytes: part})
		spoil(first.Bytes)
		spoil(put)
		if !bytes.Equal(whole, kept) {
			t.Error("what is told is a part of the value")
		}
		spoil(whole)
		if !bytes.Equal(second.Bytes, value) || !bytes.Equal(again, bytesOf(api.Cell{Bytes: value})) {
			t.Error("answers share memory, with each other or with the value")
		}
		checkGetIsNew(t, value)
	}
	c := api.Cell{Far: true, Point: api.Point{Seg: 1, At: 2, Len: 3, Sum: 4}}
	a, _ := Put(c)
	b, _ := Put(c)
	spoil(a)
	if !bytes.Equal(b, []byte{1, 1, 2, 3, 4, 0, 0, 0}) {
		t.Error("Put's answers share memory")
	}
}

func checkGetIsNew(t *testing.T, value []byte) {
	t.Helper()
	_, whole := withTail(bytesOf(api.Cell{Bytes: value}))
	kept := slices.Clone(whole)
	first, _, _ := Get(whole)
	second, _, _ := Get(whole)
	spoil(first.Bytes)
	if !bytes.Equal(whole, kept) {
		t.Error("what Get tells is a part of its bytes")
	}
	spoil(whole)
	if !bytes.Equal(second.Bytes, value) {
		t.Error("Get's answers share memory, with each other or with its bytes")
	}
}

// R4: the same answers, again and again, whatever the memory around the bytes is.
func TestSameAgain(t *testing.T) {
	r := newSource()
	for range 3000 {
		part, _ := withTail(mixedBytes(r, r.Intn(40)))
		c, size, err := Get(part)
		Get(mixedBytes(r, 12))
		c2, size2, err2 := Get(slices.Clip(slices.Clone(part)))
		if size != size2 || err != err2 || !plainSame(c, c2) {
			t.Fatalf("Get(%v) answers otherwise", part)
		}
		near, ok := Near(part, 16)
		near2, ok2 := Near(slices.Clip(slices.Clone(part)), 16)
		if ok != ok2 || !plainSame(near, near2) {
			t.Fatalf("Near(%v) answers otherwise", part)
		}
	}
}

// R1, R5: no Bytes, or empty ones, are the same, and the zero cell may be: it is the value that has no byte.
func TestNoListIsAnEmptyList(t *testing.T) {
	for _, c := range []api.Cell{{}, {Bytes: []byte{}}, {Bytes: make([]byte, 0, 9)}} {
		if b, err := Put(c); err != api.OK || !bytes.Equal(b, []byte{0, 0}) || Check(c) != api.OK {
			t.Errorf("Put(%v) = %v, %d", c, b, err)
		}
		if near, ok := Near(c.Bytes, 0); !ok || !Same(near, api.Cell{}) {
			t.Errorf("Near of nothing = %v, %v", near, ok)
		}
		far, err := Far(1, 0, c.Bytes)
		if err != api.OK || far.Point != (api.Point{Seg: 1}) || !Fits(far.Point, c.Bytes) {
			t.Errorf("Far of nothing = %v, %d", far, err)
		}
	}
	checkGet(t, []byte{0, 0}, api.Cell{})
	checkNone(t, nil)
	checkNone(t, []byte{})
}

func BenchmarkGetNear(b *testing.B) {
	list := bytesOf(api.Cell{Bytes: make([]byte, mostPlain)})
	for b.Loop() {
		Get(list)
	}
}

func BenchmarkPutFar(b *testing.B) {
	c := api.Cell{Far: true, Point: api.Point{Seg: 300, At: 70000, Len: 4096, Sum: 0xE3069283}}
	for b.Loop() {
		Put(c)
	}
}
