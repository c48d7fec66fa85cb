package crc

import (
	"bytes"
	"hash/crc32"
	"math/rand"
	"slices"
	"testing"
)

// plainSum goes by the chapter's words, bit for bit, and shares nothing with the package.
func plainSum(b []byte) uint32 {
	register := uint32(0xFFFFFFFF)
	for _, x := range b {
		for i := 0; i < 8; i++ {
			unlike := register&1 != uint32(x>>i)&1
			register >>= 1
			if unlike {
				register ^= 0x82F63B78
			}
		}
	}
	return ^register
}

func newSource() *rand.Rand { return rand.New(rand.NewSource(1)) }

func someBytes(r *rand.Rand, n int) []byte {
	b := make([]byte, n)
	r.Read(b)
	return b
}

// samples: no bytes, each single byte, runs of one byte, and mixed bytes of many lengths.
func samples() [][]byte {
	list := [][]byte{nil, {}, []byte("123456789")}
	for x := range 256 {
		list = append(list, []byte{byte(x)})
	}
	for _, n := range []int{2, 3, 4, 5, 7, 8, 9, 32, 4096} {
		list = append(list, make([]byte, n), bytes.Repeat([]byte{0xFF}, n))
	}
	r := newSource()
	for n := range 300 {
		list = append(list, someBytes(r, n))
	}
	return append(list, someBytes(r, 1<<20))
}

// Cr1: the chapter's example, and sums that are known elsewhere.
func TestOfKnownSums(t *testing.T) {
	rising := make([]byte, 32)
	for i := range rising {
		rising[i] = byte(i)
	}
	falling := slices.Clone(rising)
	slices.Reverse(falling)
	for _, c := range []struct {
		b    []byte
		want uint32
	}{
		{[]byte("123456789"), 0xE3069283},
		{[]byte("a"), 0xC1D04330},
		{make([]byte, 32), 0x8A9136AA},
		{bytes.Repeat([]byte{0xFF}, 32), 0x62A8AB43},
		{rising, 0x46DD794E},
		{falling, 0x113FDB5C},
		{nil, 0},
		{[]byte{}, 0},
	} {
		if got := Of(c.b); got != c.want {
			t.Errorf("Of(%q) = %08X, want %08X", c.b, got, c.want)
		}
	}
}

// Cr1: Of is what the words say, and what Castagnoli's polynomial gives.
func TestOfAsTheWordsSay(t *testing.T) {
	castagnoli := crc32.MakeTable(crc32.Castagnoli)
	for _, b := range samples() {
		got := Of(b)
		if want := plainSum(b); got != want {
			t.Fatalf("Of of %d bytes = %08X, by the words %08X", len(b), got, want)
		}
		if want := crc32.Checksum(b, castagnoli); got != want {
			t.Fatalf("Of of %d bytes = %08X, by hash/crc32 %08X", len(b), got, want)
		}
	}
}

// Cr1, Cr2: More goes on from a sum, wherever bytes are parted.
func TestMoreGoesOn(t *testing.T) {
	r := newSource()
	for _, n := range []int{0, 1, 2, 5, 9, 64, 257} {
		whole := someBytes(r, n)
		for cut := 0; cut <= n; cut++ {
			if got, want := More(plainSum(whole[:cut]), whole[cut:]), plainSum(whole); got != want {
				t.Fatalf("%d bytes parted at %d: %08X, want %08X", n, cut, got, want)
			}
		}
	}
	if got := More(Of([]byte("1234")), []byte("56789")); got != 0xE3069283 {
		t.Errorf("the example, parted: %08X", got)
	}
}

// Cr1, Cr2: byte after byte, and in three parts, it is still one sum.
func TestMoreInManyParts(t *testing.T) {
	r := newSource()
	for range 200 {
		a, b, c := someBytes(r, r.Intn(40)), someBytes(r, r.Intn(40)), someBytes(r, r.Intn(40))
		whole := slices.Concat(a, b, c)
		if got, want := More(More(Of(a), b), c), plainSum(whole); got != want {
			t.Fatalf("three parts: %08X, want %08X", got, want)
		}
		sum := uint32(0)
		for i := range whole {
			sum = More(sum, whole[i:i+1])
		}
		if want := plainSum(whole); sum != want {
			t.Fatalf("byte after byte: %08X, want %08X", sum, want)
		}
	}
}

// Cr1: with nothing behind, a sum stays, whichever it is; ahead of nothing, it is Of.
func TestMoreOfNothing(t *testing.T) {
	for _, sum := range []uint32{0, 1, 0x7FFFFFFF, 0x80000000, 0x82F63B78, 0xE3069283, 0xFFFFFFFF} {
		if More(sum, nil) != sum || More(sum, []byte{}) != sum {
			t.Errorf("More(%08X, nothing) is another sum", sum)
		}
	}
	for _, b := range samples() {
		if More(0, b) != plainSum(b) {
			t.Fatalf("More(0, %d bytes) is not their sum", len(b))
		}
	}
}

// Cr1: every sum is some bytes' sum: four bytes lead to any of them, and More goes on from there.
func TestMoreFromAnySum(t *testing.T) {
	r := newSource()
	for _, sum := range []uint32{0, 1, 0xFFFFFFFF, 0x80000000, 0xDEADBEEF, r.Uint32(), r.Uint32()} {
		head := bytesOfSum(sum)
		if plainSum(head) != sum {
			t.Fatalf("no bytes of the sum %08X", sum)
		}
		tail := someBytes(r, 21)
		if got, want := More(sum, tail), plainSum(slices.Concat(head, tail)); got != want {
			t.Errorf("More(%08X, ..) = %08X, want %08X", sum, got, want)
		}
	}
}

// bytesOfSum runs the register backwards through 32 bits: the turn's highest bit is set, so it tells by itself whether there was one.
func bytesOfSum(sum uint32) []byte {
	register := ^sum
	for range 32 {
		turned := register >> 31
		if turned == 1 {
			register ^= 0x82F63B78
		}
		register = register<<1 | turned
	}
	register ^= 0xFFFFFFFF
	return []byte{byte(register), byte(register >> 8), byte(register >> 16), byte(register >> 24)}
}

// Cr1: Add is the exclusive or of three sums, of whatever lengths.
func TestAddOfSums(t *testing.T) {
	nine := []byte("123456789")
	for _, c := range []struct {
		a, b, c []byte
		want    uint32
	}{
		{nil, nil, nil, 0},
		{nine, nil, nil, 0xE3069283},
		{nil, nine, nil, 0xE3069283},
		{nil, nil, nine, 0xE3069283},
		{nine, nine, nil, 0},
		{nine, nine, nine, 0xE3069283},
		{nine, []byte("a"), []byte{}, 0xE3069283 ^ 0xC1D04330},
		{[]byte{1}, []byte{2}, []byte{3}, plainSum([]byte{0})},
	} {
		if got := Add(c.a, c.b, c.c); got != c.want {
			t.Errorf("Add(%q, %q, %q) = %08X, want %08X", c.a, c.b, c.c, got, c.want)
		}
	}
	r := newSource()
	for range 500 {
		a, b, c := someBytes(r, r.Intn(50)), someBytes(r, r.Intn(50)), someBytes(r, r.Intn(50))
		if got, want := Add(a, b, c), plainSum(a)^plainSum(b)^plainSum(c); got != want {
			t.Fatalf("Add of %d, %d and %d bytes = %08X, want %08X", len(a), len(b), len(c), got, want)
		}
	}
}

// Cr2: of one length, Add is the sum of their exclusive or.
func TestAddOfOneLength(t *testing.T) {
	r := newSource()
	for n := range 130 {
		a, b, c := someBytes(r, n), someBytes(r, n), someBytes(r, n)
		mixed := make([]byte, n)
		for i := range mixed {
			mixed[i] = a[i] ^ b[i] ^ c[i]
		}
		if got, want := Add(a, b, c), Of(mixed); got != want {
			t.Fatalf("Add of thrice %d bytes = %08X, of their exclusive or %08X", n, got, want)
		}
	}
}

// turned is b with the pattern's bits turned, from the bit at on; bits behind b's end are left out.
func turned(b []byte, at int, pattern uint32) []byte {
	out := slices.Clone(b)
	for i := range 32 {
		if bit := at + i; pattern>>i&1 == 1 && bit < 8*len(out) {
			out[bit/8] ^= 1 << (bit % 8)
		}
	}
	return out
}

func checkTurned(t *testing.T, b []byte, at int, pattern uint32) {
	t.Helper()
	other := turned(b, at, pattern)
	if !bytes.Equal(other, b) && Of(other) == Of(b) {
		t.Fatalf("%d bytes with %08X turned at bit %d have the same sum", len(b), pattern, at)
	}
}

// Cr2: each place, with one bit, two bits, all 32 bits, and mixed patterns.
func TestTurnedBitsTell(t *testing.T) {
	r := newSource()
	for _, n := range []int{1, 2, 3, 4, 5, 9, 33} {
		b := someBytes(r, n)
		for at := range 8 * n {
			for far := range 32 {
				checkTurned(t, b, at, 1|1<<far)
			}
			checkTurned(t, b, at, 0xFFFFFFFF)
			checkTurned(t, b, at, 0x82F63B78)
			checkTurned(t, b, at, 0x1EDC6F41)
			for range 50 {
				checkTurned(t, b, at, r.Uint32())
			}
		}
	}
}

// Cr2: each way of turning bits of two bytes has a sum of its own.
func TestAllTurnsOfTwoBytes(t *testing.T) {
	seen := make(map[uint32]int)
	for x := range 1 << 16 {
		sum := Of([]byte{'g', byte(x), byte(x >> 8), 'r'})
		if other, ok := seen[sum]; ok {
			t.Fatalf("%04X and %04X have one sum", other, x)
		}
		seen[sum] = x
	}
}

// Cr2: 33 bits in a row are beyond the promise, and there are such that keep the sum: the bound is the sum's own, and the polynomial the right one.
func TestThirtyThreeBitsMayHide(t *testing.T) {
	b := []byte("garner's own bytes")
	other := turned(turned(b, 17, 1), 18, 0x82F63B78)
	if bytes.Equal(other, b) || Of(other) != Of(b) {
		t.Error("the polynomial itself, laid on bytes, must keep their sum")
	}
}

// R3: nothing is written, neither to the bytes nor behind them.
func TestNothingIsWritten(t *testing.T) {
	r := newSource()
	for _, n := range []int{0, 1, 9, 100} {
		var lists, copies [3][]byte
		for i := range lists {
			lists[i] = someBytes(r, n+8)
			copies[i] = slices.Clone(lists[i])
		}
		a, b, c := lists[0][:n], lists[1][:n], lists[2][:n]
		Of(a)
		More(7, b)
		Add(a, b, c)
		Add(a, a, a)
		for i := range lists {
			if !bytes.Equal(lists[i], copies[i]) {
				t.Errorf("list %d of %d bytes was written to", i, n)
			}
		}
	}
}

// R4: the same arguments, the same answers, whatever was asked in between.
func TestAnswersHangOnArguments(t *testing.T) {
	list := samples()
	first := make([]uint32, len(list))
	for i, b := range list {
		first[i] = Of(b)
	}
	for i := len(list) - 1; i >= 0; i-- {
		if Of(list[i]) != first[i] || More(0, slices.Clone(list[i])) != first[i] {
			t.Fatalf("another answer at sample %d", i)
		}
	}
}

// R5, P1: no list and an empty one are the same to every call, and none panics.
func TestNoListIsAnEmptyList(t *testing.T) {
	empty, some := []byte{}, []byte{5, 0, 255}
	if Of(nil) != Of(empty) || More(9, nil) != More(9, empty) {
		t.Error("Of or More")
	}
	if Add(nil, some, nil) != Add(empty, some, empty) || Add(nil, nil, nil) != Add(empty, empty, empty) {
		t.Error("Add")
	}
}

func BenchmarkOf(b *testing.B) {
	list := someBytes(newSource(), 4096)
	b.SetBytes(int64(len(list)))
	for b.Loop() {
		Of(list)
	}
}
