package varint

import (
	"bytes"
	"encoding/binary"
	"math"
	"math/big"
	"math/rand"
	"slices"
	"testing"

	"garner/api"
)

func newSource() *rand.Rand { return rand.New(rand.NewSource(2)) }

// someNumber has any count of bits, so that every size comes up.
func someNumber(r *rand.Rand) uint64 { return r.Uint64() >> r.Intn(65) }

// edges: 0, and both sides of each power of two.
func edges() []uint64 {
	l := []uint64{0, 300, math.MaxUint64}
	for i := range 64 {
		p := uint64(1) << i
		l = append(l, p-1, p, p+1)
	}
	return l
}

// plainBytes goes by the chapter's words: groups of seven bits, the lowest first, each with 128 more but the last one.
func plainBytes(u uint64) []byte {
	var groups []byte
	for rest := u; ; rest /= 128 {
		groups = append(groups, byte(rest%128))
		if rest/128 == 0 {
			break
		}
	}
	for i := range len(groups) - 1 {
		groups[i] += 128
	}
	return groups
}

// plainGet goes by the chapter's words with numbers of any size, and shares nothing with the package.
func plainGet(b []byte) (uint64, int, api.Errno) {
	sum, weight := new(big.Int), big.NewInt(1)
	for i, x := range b {
		group := new(big.Int).Mul(weight, big.NewInt(int64(x%128)))
		sum.Add(sum, group)
		weight.Mul(weight, big.NewInt(128))
		if x >= 128 {
			continue
		}
		if sum.IsUint64() && len(plainBytes(sum.Uint64())) == i+1 {
			return sum.Uint64(), i + 1, api.OK
		}
		break
	}
	return 0, 0, api.ErrText
}

// Va1: bytes that are known.
func TestPutKnown(t *testing.T) {
	for _, c := range []struct {
		l    []uint64
		want []byte
	}{
		{nil, nil},
		{[]uint64{}, nil},
		{[]uint64{0}, []byte{0}},
		{[]uint64{1}, []byte{1}},
		{[]uint64{127}, []byte{127}},
		{[]uint64{128}, []byte{128, 1}},
		{[]uint64{129}, []byte{129, 1}},
		{[]uint64{300}, []byte{172, 2}},
		{[]uint64{16383}, []byte{255, 127}},
		{[]uint64{16384}, []byte{128, 128, 1}},
		{[]uint64{1<<63 - 1}, []byte{255, 255, 255, 255, 255, 255, 255, 255, 127}},
		{[]uint64{1 << 63}, []byte{128, 128, 128, 128, 128, 128, 128, 128, 128, 1}},
		{[]uint64{math.MaxUint64}, []byte{255, 255, 255, 255, 255, 255, 255, 255, 255, 1}},
		{[]uint64{300, 1}, []byte{172, 2, 1}},
		{[]uint64{0, 0, 128, 127, 0}, []byte{0, 0, 128, 1, 127, 0}},
	} {
		if got := Put(c.l...); !bytes.Equal(got, c.want) {
			t.Errorf("Put(%v) = %v, want %v", c.l, got, c.want)
		}
	}
	if got := Put(); len(got) != 0 {
		t.Errorf("Put() = %v", got)
	}
}

// Va1: one number, and its size, as the words say, and as Go's own library has it.
func TestPutAndSizeAsTheWordsSay(t *testing.T) {
	r := newSource()
	l := edges()
	for range 5000 {
		l = append(l, someNumber(r))
	}
	for _, u := range l {
		want := plainBytes(u)
		if got := Put(u); !bytes.Equal(got, want) || !bytes.Equal(got, binary.AppendUvarint(nil, u)) {
			t.Fatalf("Put(%d) = %v, want %v", u, got, want)
		}
		if got := Size(u); got != len(want) {
			t.Fatalf("Size(%d) = %d, want %d", u, got, len(want))
		}
	}
}

// Va1: each size has its first and its last number.
func TestSizeKnown(t *testing.T) {
	for u, want := range map[uint64]int{
		0: 1, 1: 1, 127: 1, 128: 2, 300: 2, 1<<14 - 1: 2, 1 << 14: 3, 1<<21 - 1: 3, 1 << 21: 4,
		1<<28 - 1: 4, 1 << 28: 5, 1<<35 - 1: 5, 1 << 35: 6, 1<<42 - 1: 6, 1 << 42: 7,
		1<<49 - 1: 7, 1 << 49: 8, 1<<56 - 1: 8, 1 << 56: 9, 1<<63 - 1: 9, 1 << 63: 10, math.MaxUint64: 10,
	} {
		if got := Size(u); got != want {
			t.Errorf("Size(%d) = %d, want %d", u, got, want)
		}
	}
}

// Va1: several numbers' bytes stand one behind the other.
func TestPutSeveral(t *testing.T) {
	r := newSource()
	for range 500 {
		var l []uint64
		var want []byte
		for range r.Intn(20) {
			u := someNumber(r)
			l = append(l, u)
			want = append(want, plainBytes(u)...)
		}
		if got := Put(l...); !bytes.Equal(got, want) {
			t.Fatalf("Put(%v) = %v, want %v", l, got, want)
		}
	}
}

// Va1: Fold and Unfold at 0, around it, and at both ends.
func TestFoldKnown(t *testing.T) {
	for n, want := range map[int64]uint64{
		0: 0, -1: 1, 1: 2, -2: 3, 2: 4, -3: 5, 3: 6, 63: 126, -64: 127, 64: 128, 1000: 2000, -1000: 1999,
		1<<62 - 1: 1<<63 - 2, 1 << 62: 1 << 63, -1 << 62: 1<<63 - 1, -1<<62 - 1: 1<<63 + 1,
		math.MaxInt64: math.MaxUint64 - 1, math.MinInt64: math.MaxUint64, math.MinInt64 + 1: math.MaxUint64 - 2,
	} {
		if got := Fold(n); got != want {
			t.Errorf("Fold(%d) = %d, want %d", n, got, want)
		}
		if got := Unfold(want); got != n {
			t.Errorf("Unfold(%d) = %d, want %d", want, got, n)
		}
	}
}

// Va1: folded as the words say, of any number; and unfolded again, from either side.
func TestFoldAsTheWordsSay(t *testing.T) {
	r := newSource()
	l := edges()
	for range 5000 {
		l = append(l, someNumber(r), -someNumber(r))
	}
	for _, u := range l {
		n := int64(u)
		want := new(big.Int).Mul(big.NewInt(n), big.NewInt(2))
		if n < 0 {
			want.Neg(want).Sub(want, big.NewInt(1))
		}
		if got := Fold(n); !want.IsUint64() || got != want.Uint64() || Unfold(got) != n {
			t.Fatalf("Fold(%d) = %d, want %v", n, got, want)
		}
		if Fold(Unfold(u)) != u {
			t.Fatalf("Unfold(%d) = %d, which is folded to another one", u, Unfold(u))
		}
	}
}

// Va2: Get of what begins with a number's bytes.
func TestGetKnown(t *testing.T) {
	for _, c := range []struct {
		b    []byte
		u    uint64
		size int
	}{
		{[]byte{0}, 0, 1},
		{[]byte{0, 0}, 0, 1},
		{[]byte{0, 128}, 0, 1},
		{[]byte{127, 255}, 127, 1},
		{[]byte{128, 1}, 128, 2},
		{[]byte{172, 2}, 300, 2},
		{[]byte{172, 2, 9}, 300, 2},
		{[]byte{128, 128, 1, 0}, 1 << 14, 3},
		{[]byte{255, 255, 255, 255, 255, 255, 255, 255, 127, 255}, 1<<63 - 1, 9},
		{[]byte{128, 128, 128, 128, 128, 128, 128, 128, 128, 1}, 1 << 63, 10},
		{[]byte{255, 255, 255, 255, 255, 255, 255, 255, 255, 1}, math.MaxUint64, 10},
		{[]byte{255, 255, 255, 255, 255, 255, 255, 255, 255, 1, 255}, math.MaxUint64, 10},
	} {
		if u, size, err := Get(c.b); u != c.u || size != c.size || err != api.OK {
			t.Errorf("Get(%v) = %d, %d, %d, want %d, %d", c.b, u, size, err, c.u, c.size)
		}
	}
}

// noNumbers begin with no number's bytes, whatever stands behind them: too many bytes, or too many bits.
func noNumbers() [][]byte {
	high := func(n int, last ...byte) []byte { return append(bytes.Repeat([]byte{255}, n), last...) }
	low := func(n int, last ...byte) []byte { return append(bytes.Repeat([]byte{128}, n), last...) }
	list := [][]byte{
		{172, 130, 0},
		high(9, 2), high(9, 3), high(9, 127), high(9, 128, 0), high(9, 129, 0), high(9, 129, 1), high(10, 1),
		low(9, 2), low(9, 64), low(9, 130, 0), low(10, 1), low(10, 2), low(11, 1), low(30, 1), high(30, 127),
	}
	for n := range 20 {
		list = append(list, low(n+1, 0), high(n+1, 0))
	}
	return list
}

// Va2: ErrText, and nothing beside it, of what is no number, wherever b ends.
func TestGetOfNoNumber(t *testing.T) {
	list := append(noNumbers(), nil, []byte{}, []byte{128}, []byte{255}, []byte{129, 128})
	for _, bad := range noNumbers() {
		list = append(list, append(slices.Clone(bad), 1), append(slices.Clone(bad), 0, 5))
	}
	for _, b := range list {
		if u, size, err := Get(b); u != 0 || size != 0 || err != api.ErrText {
			t.Errorf("Get(%v) = %d, %d, %d", b, u, size, err)
		}
	}
}

// Va2: each beginning of a number's bytes ends within it.
func TestGetOfBeginnings(t *testing.T) {
	for _, u := range edges() {
		whole := plainBytes(u)
		for cut := range whole {
			if got, size, err := Get(whole[:cut]); got != 0 || size != 0 || err != api.ErrText {
				t.Fatalf("Get of %d of the %d bytes of %d: %d, %d, %d", cut, len(whole), u, got, size, err)
			}
		}
	}
}

// mixedBytes are such that numbers of all sizes, and what is none, come up.
func mixedBytes(r *rand.Rand, n int) []byte {
	palette := []byte{0, 1, 2, 127, 128, 129, 254, 255}
	b := make([]byte, n)
	high := r.Intn(100)
	for i := range b {
		b[i] = byte(r.Intn(256))
		if r.Intn(2) == 0 {
			b[i] = palette[r.Intn(len(palette))]
		}
		if r.Intn(100) < high {
			b[i] |= 128
		}
	}
	return b
}

// Va2: Get as the words say, of all short bytes and of many longer ones.
func TestGetAsTheWordsSay(t *testing.T) {
	check := func(b []byte) {
		u, size, err := Get(b)
		wantU, wantSize, wantErr := plainGet(b)
		if u != wantU || size != wantSize || err != wantErr {
			t.Fatalf("Get(%v) = %d, %d, %d, want %d, %d, %d", b, u, size, err, wantU, wantSize, wantErr)
		}
	}
	for x := range 256 {
		check([]byte{byte(x)})
		for y := range 256 {
			check([]byte{byte(x), byte(y)})
		}
	}
	r := newSource()
	for range 30000 {
		check(mixedBytes(r, r.Intn(14)))
	}
	for last := range 256 {
		for _, head := range []byte{128, 255} {
			ten := append(bytes.Repeat([]byte{head}, 9), byte(last))
			check(ten)
			check(append(ten, 1))
		}
	}
}

func checkAll(t *testing.T, b []byte, n int, want []uint64, wantSize int, wantErr api.Errno) {
	t.Helper()
	l, size, err := All(b, n)
	if !slices.Equal(l, want) || size != wantSize || err != wantErr {
		t.Errorf("All(%v, %d) = %v, %d, %d, want %v, %d, %d", b, n, l, size, err, want, wantSize, wantErr)
	}
}

// Va2: All of 0, of 1 and of several, with bytes behind them that are not asked for.
func TestAllKnown(t *testing.T) {
	b := []byte{172, 2, 0, 127, 128, 1, 128, 0}
	checkAll(t, b, 0, nil, 0, api.OK)
	checkAll(t, b, 1, []uint64{300}, 2, api.OK)
	checkAll(t, b, 2, []uint64{300, 0}, 3, api.OK)
	checkAll(t, b, 3, []uint64{300, 0, 127}, 4, api.OK)
	checkAll(t, b, 4, []uint64{300, 0, 127, 128}, 6, api.OK)
	checkAll(t, nil, 0, nil, 0, api.OK)
	checkAll(t, []byte{128}, 0, nil, 0, api.OK)
}

// Va2: the place of the first one that is none is how many bytes stand ahead of it.
func TestAllTellsThePlace(t *testing.T) {
	b := []byte{172, 2, 0, 127, 128, 1, 128, 0, 128}
	checkAll(t, b, 5, nil, 6, api.ErrText)
	checkAll(t, b, 6, nil, 6, api.ErrText)
	checkAll(t, b, 1000, nil, 6, api.ErrText)
	checkAll(t, b[:6], 5, nil, 6, api.ErrText)
	checkAll(t, b[:5], 4, nil, 4, api.ErrText)
	checkAll(t, b[:1], 1, nil, 0, api.ErrText)
	checkAll(t, nil, 1, nil, 0, api.ErrText)
	checkAll(t, []byte{}, 1000, nil, 0, api.ErrText)
	for _, bad := range noNumbers() {
		checkAll(t, bad, 1, nil, 0, api.ErrText)
		longer := append(Put(300, math.MaxUint64, 5), bad...)
		checkAll(t, longer, 3, []uint64{300, math.MaxUint64, 5}, 13, api.OK)
		checkAll(t, longer, 4, nil, 13, api.ErrText)
		checkAll(t, append(longer, 1, 1, 1), 7, nil, 13, api.ErrText)
	}
}

// Va2, P1: an n that may not be is ErrArg, whatever the bytes are: it is named first.
func TestAllOfWrongCounts(t *testing.T) {
	for _, n := range []int{-1, -2, -1000, math.MinInt, 1001, 1002, 1 << 31, math.MaxInt} {
		checkAll(t, make([]byte, 2000), n, nil, 0, api.ErrArg)
		checkAll(t, []byte{1, 128}, n, nil, 0, api.ErrArg)
		checkAll(t, nil, n, nil, 0, api.ErrArg)
	}
}

// Va2: 1000 numbers may be asked for, and there may be more of them, or one too few.
func TestAllOfTheMost(t *testing.T) {
	l := make([]uint64, 1001)
	for i := range l {
		l[i] = uint64(i) * uint64(i) * uint64(i) * 1000003
	}
	b, most := Put(l...), Put(l[:1000]...)
	checkAll(t, b, 1000, l[:1000], len(most), api.OK)
	checkAll(t, most, 1000, l[:1000], len(most), api.OK)
	checkAll(t, most[:len(most)-1], 1000, nil, len(Put(l[:999]...)), api.ErrText)
	checkAll(t, make([]byte, 1000), 1000, make([]uint64, 1000), 1000, api.OK)
	checkAll(t, make([]byte, 999), 1000, nil, 999, api.ErrText)
}

// Va2: All is Get, one behind the other, of whatever bytes.
func TestAllAsTheWordsSay(t *testing.T) {
	r := newSource()
	for range 5000 {
		b, n := mixedBytes(r, r.Intn(40)), r.Intn(12)
		var want []uint64
		at, err := 0, api.OK
		for range n {
			u, size, e := plainGet(b[at:])
			if e != api.OK {
				want, err = nil, e
				break
			}
			want = append(want, u)
			at += size
		}
		checkAll(t, b, n, want, at, err)
	}
}

// Va3: what is put is got, all of it, one by one and together.
func TestPutIsGot(t *testing.T) {
	r := newSource()
	for range 500 {
		l := make([]uint64, r.Intn(30))
		for i := range l {
			l[i] = someNumber(r)
		}
		b := Put(l...)
		checkAll(t, b, len(l), l, len(b), api.OK)
		checkAll(t, append(slices.Clone(b), mixedBytes(r, 5)...), len(l), l, len(b), api.OK)
		checkAll(t, b, len(l)+1, nil, len(b), api.ErrText)
		for _, u := range l {
			got, size, err := Get(b)
			if got != u || size != Size(u) || err != api.OK {
				t.Fatalf("of %d was got %d, %d, %d", u, got, size, err)
			}
			b = b[size:]
		}
	}
	checkAll(t, Put(edges()...), len(edges()), edges(), len(Put(edges()...)), api.OK)
}

// Va3: what is got is what Put makes of it, so no other bytes are that number.
func TestGotIsPut(t *testing.T) {
	r := newSource()
	for range 30000 {
		b := mixedBytes(r, r.Intn(14))
		if u, size, err := Get(b); err == api.OK && !bytes.Equal(Put(u), b[:size]) {
			t.Fatalf("Get(%v) = %d, whose bytes are %v", b, u, Put(u))
		}
	}
}

// Va3: no number's bytes are the beginning of another one's.
func TestNoBeginnings(t *testing.T) {
	r := newSource()
	l := edges()
	for i := range 1000 {
		l = append(l, uint64(i), someNumber(r))
	}
	slices.Sort(l)
	l = slices.Compact(l)
	all := make([][]byte, len(l))
	for i, u := range l {
		all[i] = Put(u)
	}
	// In the order of bytes, what begins with another stands right behind it, or behind others that do.
	slices.SortFunc(all, bytes.Compare)
	for i := 1; i < len(all); i++ {
		if bytes.HasPrefix(all[i], all[i-1]) {
			t.Fatalf("%v begins with %v", all[i], all[i-1])
		}
	}
}

// R3: nothing is written, neither to what is handed in nor behind it.
func TestNothingIsWritten(t *testing.T) {
	numbers := append(edges(), edges()...)
	numbersCopy := slices.Clone(numbers)
	Put(numbers[:len(numbers)/2]...)
	if !slices.Equal(numbers, numbersCopy) {
		t.Error("Put wrote to its numbers")
	}
	b := Put(numbers...)
	b = append(b, 128, 0, 1, 2, 3)
	bCopy := slices.Clone(b)
	half := len(b) / 2
	Get(b[:half])
	All(b[:half], 20)
	All(b[:half], 1000)
	Get(b[len(b)-5:])
	if !bytes.Equal(b, bCopy) {
		t.Error("Get or All wrote to its bytes")
	}
}

// R3: answers are new memory: writing to one turns neither an argument nor another answer.
func TestAnswersAreNew(t *testing.T) {
	numbers := []uint64{1, 300, 5}
	first, second := Put(numbers...), Put(numbers...)
	first[0], first[1] = 99, 99
	if !bytes.Equal(second, []byte{1, 172, 2, 5}) || !slices.Equal(numbers, []uint64{1, 300, 5}) {
		t.Error("Put's answers share memory")
	}
	l, _, _ := All(second, 3)
	l[0] = 77
	again, _, _ := All(second, 3)
	if !slices.Equal(again, numbers) || !bytes.Equal(second, []byte{1, 172, 2, 5}) {
		t.Error("All's answers share memory")
	}
	_ = append(second[:1], 200)
	if !slices.Equal(again, numbers) {
		t.Error("All's answer hangs on its bytes")
	}
}

// R4, R5: the same arguments, the same answers; no list and an empty one are the same.
func TestAnswersHangOnArguments(t *testing.T) {
	r := newSource()
	for range 500 {
		b, n := mixedBytes(r, r.Intn(20)), r.Intn(6)
		l, size, err := All(b, n)
		All(mixedBytes(r, 20), 9)
		checkAll(t, slices.Clone(b), n, l, size, err)
		checkAll(t, slices.Clip(b), n, l, size, err)
	}
	if !bytes.Equal(Put(), Put([]uint64{}...)) {
		t.Error("Put of no list is another one than of an empty one")
	}
	_, size, err := Get(nil)
	if _, s, e := Get([]byte{}); s != size || e != err {
		t.Error("Get of no list is another one than of an empty one")
	}
}

func BenchmarkPut(b *testing.B) {
	l := edges()
	for b.Loop() {
		Put(l...)
	}
}

func BenchmarkAll(b *testing.B) {
	l := Put(edges()...)
	n := len(edges())
	for b.Loop() {
		All(l, n)
	}
}
