package sieve

import (
	"bytes"
	"math"
	"slices"
	"strconv"
	"strings"
	"testing"
)

// bytesOf is a sieve of n bytes in which just these bits are set.
func bytesOf(n int, bits ...int) []byte {
	b := make([]byte, n)
	for _, bit := range bits {
		b[bit/8] |= 1 << (bit % 8)
	}
	return b
}

// numbers are n keys, no two alike.
func numbers(n int) []string {
	l := make([]string, n)
	for i := range l {
		l[i] = strconv.Itoa(i)
	}
	return l
}

// The chapter's example.
func TestExample(t *testing.T) {
	b := Of(nil)
	if len(b) != 1 || b[0] != 0 {
		t.Fatalf("Of no keys: %v", b)
	}
	for _, key := range manyKeys() {
		if Has(b, key) {
			t.Errorf("the sieve of no keys has %.20q", key)
		}
	}
}

// Si1: bits that were worked out elsewhere, by the words.
func TestBitsKnown(t *testing.T) {
	for _, c := range []struct {
		n    int
		key  string
		want []int
	}{
		{1, "", []int{0, 1, 2, 3, 4, 5}},
		{1, "a", []int{0, 1, 2, 3, 4, 5}},
		{1, "b", []int{4, 5, 6, 7, 0, 1}},
		{1, "123456789", []int{3, 0, 5, 2, 7, 4}},
		{2, "", []int{0, 1, 2, 3, 4, 5}},
		{2, "\x00", []int{1, 12, 7, 2, 13, 8}},
		{2, "\xff\xff\xff\xff", []int{15, 14, 13, 12, 11, 10}},
		{3, "a", []int{0, 9, 10, 19, 20, 5}},
		{3, "b", []int{20, 5, 6, 7, 16, 17}},
		{3, "\xff\xff\xff\xff", []int{15, 14, 13, 12, 11, 10}},
		{7, "\x00\xff\x80key", []int{9, 38, 11, 40, 13, 10}},
		{12, "123456789", []int{3, 80, 29, 74, 23, 68}},
		{1000, "a", []int{3376, 5713, 7346, 1683, 3316, 5653}},
		{1000, strings.Repeat("garner", 20), []int{4499, 5296, 6093, 6186, 6983, 7780}},
		{1<<20 - 1, "\x00", []int{8214641, 2099164, 4368191, 6637218, 521741, 2790768}},
		{1<<20 - 1, "\xff\xff\xff\xff", []int{4095, 4094, 4093, 4092, 4091, 4090}},
		{1 << 20, "", []int{0, 1, 2, 3, 4, 5}},
		{1 << 20, "a", []int{5260080, 3262161, 1264242, 7654931, 5657012, 3659093}},
		{1 << 20, "\xff\xff\xff\xff", []int{8388607, 8388606, 8388605, 8388604, 8388603, 8388602}},
	} {
		if got := Bits(c.n, c.key); !slices.Equal(got, c.want) {
			t.Errorf("Bits(%d, %.20q): %v, want %v", c.n, c.key, got, c.want)
		}
	}
}

// Si1: sizes in which no key has bits.
func TestBitsOfNoSize(t *testing.T) {
	for _, n := range []int{0, -1, -2, -8, -1 << 20, math.MinInt32, math.MinInt, math.MinInt + 1,
		1<<20 + 1, 1<<20 + 2, 1 << 21, 1 << 28, 1<<29 + 1, 1 << 29, 1 << 32, 1<<32 + 1, 1 << 61, 1<<61 + 1, math.MaxInt32, math.MaxInt} {
		for _, key := range manyKeys() {
			if got := Bits(n, key); len(got) != 0 {
				t.Fatalf("Bits(%d, %.20q): %v", n, key, got)
			}
		}
	}
}

// Si1: Bits as the words say, of all sizes at the edges, with sums and turns that pass 2^32 and that do not.
func TestBitsAsTheWordsSay(t *testing.T) {
	passed, within := 0, 0
	for _, key := range manyKeys() {
		for _, n := range manySizes() {
			got, want := Bits(n, key), plainBits(n, key)
			if !slices.Equal(got, want) {
				t.Fatalf("Bits(%d, %.20q): %v, want %v", n, key, got, want)
			}
		}
		h := uint64(plainSum(key))
		if h+5*plainTurn(uint32(h)).Uint64() >= 1<<32 {
			passed++
		} else {
			within++
		}
	}
	if passed < 50 || within < 10 {
		t.Errorf("too few of one kind: %d pass 2^32, %d do not", passed, within)
	}
}

// Si1: sums whose turn passes 2^32, and of which the lowest bit is set or not: d is worked out by hand.
func TestBitsOfTurns(t *testing.T) {
	for _, c := range []struct{ h, d uint64 }{
		{0, 1},
		{1, 1<<17 | 1},
		{1 << 14, 1<<31 | 1},
		{1 << 15, 1},
		{1 << 16, 2 | 1},
		{1 << 31, 1<<16 | 1},
		{1<<15 | 1<<16, 2 | 1},
		{0x0000FFFF, 0xFFFE0001},
		{0xFFFF0000, 0x0001FFFF},
		{0x7FFFFFFF, 0xFFFEFFFF},
		{0xFFFFFFFF, 0xFFFFFFFF},
		{0x12345678, 0xACF02469},
	} {
		key := keyOfSum(uint32(c.h))
		if uint64(plainSum(key)) != c.h {
			t.Fatalf("no key of the sum %X", c.h)
		}
		for _, n := range manySizes() {
			for i, bit := range Bits(n, key) {
				want := int((c.h + uint64(i)*c.d) & 0xFFFFFFFF % uint64(8*n))
				if bit != want {
					t.Errorf("sum %X, %d bytes, bit %d: %d, want %d", c.h, n, i, bit, want)
				}
			}
		}
	}
}

// Si1: always six, each of which the sieve has. As d is odd, and 8 goes into 2^32 and into 8n, the six stand at unlike places within their bytes: a key's own bits are never alike.
func TestSixBits(t *testing.T) {
	for _, key := range manyKeys() {
		for _, n := range manySizes() {
			l := Bits(n, key)
			places := map[int]int{}
			for _, bit := range l {
				if bit < 0 || bit >= 8*n {
					t.Fatalf("Bits(%d, %.20q): %v", n, key, l)
				}
				places[bit%8]++
			}
			if len(l) != 6 || len(places) != 6 {
				t.Fatalf("Bits(%d, %.20q): %v", n, key, l)
			}
		}
	}
}

// Si1: they are told in order of i, whether they rise, fall or neither.
func TestBitsAreNotSorted(t *testing.T) {
	rising, falling, mixed := 0, 0, 0
	for _, key := range manyKeys() {
		l := Bits(100, key)
		if !slices.Equal(l, plainBits(100, key)) {
			t.Fatalf("Bits(100, %.20q): %v", key, l)
		}
		back := slices.Clone(l)
		slices.Reverse(back)
		switch {
		case slices.IsSorted(l):
			rising++
		case slices.IsSorted(back):
			falling++
		default:
			mixed++
		}
	}
	if rising == 0 || falling == 0 || mixed == 0 {
		t.Errorf("none of one kind: %d rise, %d fall, %d do neither", rising, falling, mixed)
	}
}

// Si1: sieves that were worked out elsewhere, by the words.
func TestOfKnown(t *testing.T) {
	for _, c := range []struct {
		keys []string
		want []byte
	}{
		{nil, []byte{0}},
		{[]string{}, []byte{0}},
		{[]string{""}, []byte{63, 0}},
		{[]string{"a"}, []byte{63, 0}},
		{[]string{"a", "b"}, []byte{225, 6, 27}},
		{[]string{"b", "a"}, []byte{225, 6, 27}},
		{[]string{"123456789", "123456789"}, []byte{44, 1, 144}},
		{numbers(10), []byte{32, 235, 147, 224, 89, 136, 128, 53, 252, 121, 144, 95}},
	} {
		if got := Of(c.keys); !bytes.Equal(got, c.want) {
			t.Errorf("Of(%q): %v, want %v", c.keys, got, c.want)
		}
	}
}

// Si1: as many bytes as keys, and one more tenth, rounded down, and one.
func TestOfHasLength(t *testing.T) {
	for _, c := range []struct{ keys, want int }{
		{0, 1}, {1, 2}, {2, 3}, {8, 9}, {9, 10}, {10, 12}, {11, 13}, {19, 21}, {20, 23}, {21, 24}, {29, 32}, {30, 34},
		{99, 109}, {100, 111}, {256, 282}, {16384, 18023}, {65535, 72089}, {65536, 72090}, {65537, 0}, {65538, 0}, {100000, 0},
	} {
		if got := len(Of(numbers(c.keys))); got != c.want {
			t.Errorf("Of %d keys: %d bytes, want %d", c.keys, got, c.want)
		}
		if got := len(Of(make([]string, c.keys))); got != c.want {
			t.Errorf("Of an empty key, %d times: %d bytes, want %d", c.keys, got, c.want)
		}
	}
}

// Si1: just all bits of all keys are set, in whatever order and how often the keys are there.
func TestOfAsTheWordsSay(t *testing.T) {
	r := newSource()
	for n := range 120 {
		keys := someKeys(r, n)
		if n > 3 {
			keys[r.Intn(n)] = ""
			keys[r.Intn(n)] = keys[r.Intn(n)]
		}
		want := plainOf(keys)
		if got := Of(keys); !bytes.Equal(got, want) {
			t.Fatalf("Of(%q): %v, want %v", keys, got, want)
		}
		r.Shuffle(n, func(i, k int) { keys[i], keys[k] = keys[k], keys[i] })
		if got := Of(keys); !bytes.Equal(got, want) {
			t.Fatalf("Of(%q): %v in another order, want %v", keys, got, want)
		}
	}
	for _, n := range []int{1000, 16384} {
		if keys := numbers(n); !bytes.Equal(Of(keys), plainOf(keys)) {
			t.Errorf("Of %d keys", n)
		}
	}
}

// Si1: a key that is there twice counts twice, and sets its bits once.
func TestOfKeyTwice(t *testing.T) {
	for _, key := range manyKeys() {
		for _, times := range []int{2, 3, 10, 25} {
			n := times + times/10 + 1
			got := Of(slices.Repeat([]string{key}, times))
			if want := bytesOf(n, plainBits(n, key)...); !bytes.Equal(got, want) {
				t.Errorf("Of %.20q, %d times: %v, want %v", key, times, got, want)
			}
		}
	}
}

// Si1: keys that share bits with one another: what both set stays set.
func TestOfSharedBits(t *testing.T) {
	shared := 0
	keys := manyKeys()
	for i, a := range keys[1:] {
		b := keys[i]
		x, y := plainBits(3, a), plainBits(3, b)
		if slices.ContainsFunc(x, func(bit int) bool { return slices.Contains(y, bit) }) {
			shared++
		}
		if got, want := Of([]string{a, b}), bytesOf(3, append(x, y...)...); !bytes.Equal(got, want) {
			t.Errorf("Of %.20q and %.20q: %v, want %v", a, b, got, want)
		}
	}
	if shared < 20 {
		t.Errorf("only %d share bits", shared)
	}
}

// Si1, Si2: as many keys as there may be, and one more.
func TestOfMostKeys(t *testing.T) {
	keys := numbers(mostKeys + 1)
	keys[7], keys[mostKeys-1] = "", "the last one"
	b := Of(keys[:mostKeys])
	if !bytes.Equal(b, plainOf(keys[:mostKeys])) {
		t.Fatalf("Of %d keys", mostKeys)
	}
	for _, key := range keys[:mostKeys] {
		if !Has(b, key) {
			t.Fatalf("it has not %q", key)
		}
	}
	if got := Of(keys); len(got) != 0 {
		t.Errorf("Of %d keys: %d bytes", len(keys), len(got))
	}
}

// Si1: no bytes, and more than 2^20, have every key; 2^20 bytes have just those whose bits are set.
func TestHasOfEdges(t *testing.T) {
	most, beyond := make([]byte, mostBytes), make([]byte, mostBytes+1)
	far := make([]byte, 8*mostBytes)
	for _, key := range manyKeys() {
		if !Has(nil, key) || !Has([]byte{}, key) || !Has(beyond, key) || !Has(far, key) {
			t.Fatalf("%.20q: not had where it has no bits", key)
		}
		if Has(most, key) || Has(most[:mostBytes-1], key) || Has(most[:1], key) {
			t.Fatalf("%.20q: had where no bit is set", key)
		}
	}
}

// Si1: all bits of a key, all but each one, none of them, and all that are not its own.
func TestHasOfBits(t *testing.T) {
	for _, key := range manyKeys() {
		for _, n := range []int{1, 2, 3, 7, 12, 40, 1000} {
			own := plainBits(n, key)
			b := bytesOf(n, own...)
			if !Has(b, key) || !Has(bytes.Repeat([]byte{255}, n), key) {
				t.Fatalf("%.20q in %d bytes: all bits are set", key, n)
			}
			others := bytes.Repeat([]byte{255}, n)
			for _, bit := range own {
				b[bit/8] ^= 1 << (bit % 8)
				if Has(b, key) {
					t.Fatalf("%.20q in %d bytes: without bit %d", key, n, bit)
				}
				b[bit/8] ^= 1 << (bit % 8)
				others[bit/8] ^= 1 << (bit % 8)
				if Has(others, key) {
					t.Fatalf("%.20q in %d bytes: all but bit %d and some", key, n, bit)
				}
			}
			if Has(make([]byte, n), key) {
				t.Fatalf("%.20q in %d bytes: no bit is set", key, n)
			}
		}
	}
}

// Si1: 2^20 bytes, with all bits of a key and all but one.
func TestHasOfMostBytes(t *testing.T) {
	b := make([]byte, mostBytes)
	for _, key := range manyKeys()[:40] {
		own := plainBits(mostBytes, key)
		for _, bit := range own {
			if Has(b, key) {
				t.Fatalf("%.20q: had ahead of bit %d", key, bit)
			}
			b[bit/8] |= 1 << (bit % 8)
		}
		if !Has(b, key) {
			t.Fatalf("%.20q: all bits are set", key)
		}
		clear(b)
	}
}

// Si1: Has as the words say, of any bytes, of which most bits are set, so that both answers come.
func TestHasAsTheWordsSay(t *testing.T) {
	r := newSource()
	seen := map[bool]int{}
	for range 20000 {
		b := someBytes(r, r.Intn(60))
		for range 2 {
			for i, x := range someBytes(r, len(b)) {
				b[i] |= x
			}
		}
		key := someKey(r)
		want := plainHas(b, key)
		if got := Has(b, key); got != want {
			t.Fatalf("Has(%v, %q): %v, want %v", b, key, got, want)
		}
		seen[want]++
	}
	if seen[true] < 1000 || seen[false] < 1000 {
		t.Errorf("too few of one kind: %v", seen)
	}
}

// Si2: the sieve of keys has each of them, whatever they are.
func TestSieveHasItsKeys(t *testing.T) {
	r := newSource()
	lists := [][]string{manyKeys(), {""}, {"", ""}, numbers(5000), make([]string, 100)}
	for n := range 200 {
		lists = append(lists, someKeys(r, n))
	}
	for _, keys := range lists {
		b := Of(keys)
		for _, key := range keys {
			if !Has(b, key) {
				t.Fatalf("the sieve of %d keys has not %.20q", len(keys), key)
			}
		}
	}
	for _, key := range []string{"", "a", "any"} {
		if !Has(Of(make([]string, mostKeys+1)), key) {
			t.Errorf("where there is no sieve %q is not had", key)
		}
	}
}

// Si2: a sieve tells: most keys that it was not made of it has not.
func TestSieveTells(t *testing.T) {
	b, had := Of(numbers(5000)), 0
	for i := range 5000 {
		if Has(b, "other "+strconv.Itoa(i)) {
			had++
		}
	}
	if had == 0 || had > 500 {
		t.Errorf("of 5000 other keys it has %d", had)
	}
}

// R3: no call writes to what it is handed, nor behind its end.
func TestNothingIsWritten(t *testing.T) {
	r := newSource()
	for n := range 60 {
		keys := someKeys(r, n+5)
		wasKeys := slices.Clone(keys)
		b := someBytes(r, n+5)
		wasBytes := slices.Clone(b)
		Of(keys[:n])
		Has(b[:n], keys[0])
		Has(b[:n], "")
		Bits(n, keys[0])
		if !slices.Equal(keys, wasKeys) || !bytes.Equal(b, wasBytes) {
			t.Fatalf("%d keys and bytes were written to", n)
		}
	}
}

// R3: what is told is nobody else's: writing to it, also behind its end, turns no other answer.
func TestAnswersAreNew(t *testing.T) {
	for _, keys := range [][]string{nil, {}, {"a"}, {"a", "b"}, numbers(30)} {
		first, want := Of(keys), plainOf(keys)
		other := Of(keys)
		for i := range first[:cap(first)] {
			first[:cap(first)][i] ^= 255
		}
		if !bytes.Equal(other, want) || !bytes.Equal(Of(keys), want) {
			t.Errorf("Of(%q) hangs on what was told ahead", keys)
		}
	}
	for _, n := range []int{1, 3, 1000, mostBytes} {
		first, want := Bits(n, "a"), plainBits(n, "a")
		other := Bits(n, "a")
		for i := range first[:cap(first)] {
			first[:cap(first)][i] = -1
		}
		if !slices.Equal(other, want) || !slices.Equal(Bits(n, "a"), want) {
			t.Errorf("Bits(%d, ..) hangs on what was told ahead", n)
		}
	}
}

// R4: the same answers, again and again, whatever the memory around is and whatever was asked in between.
func TestSameAgain(t *testing.T) {
	r := newSource()
	for n := range 80 {
		keys := someKeys(r, n)
		b, l := Of(keys), Bits(n+1, "k")
		Of(someKeys(r, n+3))
		longer := append(slices.Clone(keys), someKeys(r, 9)...)
		wide := append(slices.Clone(b), someBytes(r, 9)...)
		if !bytes.Equal(Of(longer[:n]), b) || !slices.Equal(Bits(n+1, strings.Clone("k")), l) {
			t.Fatalf("another answer for %d keys", n)
		}
		key := someKey(r)
		if Has(wide[:len(b)], key) != Has(b, key) {
			t.Fatalf("another answer for %q", key)
		}
	}
}

// R5: an empty list, or no list, are the same.
func TestNoListIsAnEmptyList(t *testing.T) {
	if !bytes.Equal(Of(nil), Of([]string{})) {
		t.Error("Of")
	}
	for _, key := range manyKeys() {
		if Has(nil, key) != Has([]byte{}, key) {
			t.Errorf("Has(.., %.20q)", key)
		}
	}
}

// P1: every call ends and none panics, at all arguments, and tells what the words say.
func FuzzAll(f *testing.F) {
	f.Add(0, "", []byte{})
	f.Add(-1, "a", []byte{0})
	f.Add(math.MinInt, "\xff", []byte{255})
	f.Add(math.MaxInt, "key", []byte{63, 0})
	f.Add(1<<20, "123456789", []byte("any bytes"))
	f.Add(1<<20+1, "\x00", []byte{225, 6, 27})
	f.Fuzz(func(t *testing.T, n int, key string, b []byte) {
		if got, want := Bits(n, key), plainBits(n, key); !slices.Equal(got, want) {
			t.Errorf("Bits(%d, %q): %v, want %v", n, key, got, want)
		}
		if got, want := Has(b, key), plainHas(b, key); got != want {
			t.Errorf("Has(%v, %q): %v, want %v", b, key, got, want)
		}
		keys := append(strings.Split(string(b), "\x00"), key)
		if got, want := Of(keys), plainOf(keys); !bytes.Equal(got, want) {
			t.Errorf("Of(%q): %v, want %v", keys, got, want)
		}
	})
}

func BenchmarkOf(b *testing.B) {
	keys := numbers(16384)
	for b.Loop() {
		Of(keys)
	}
}

func BenchmarkHas(b *testing.B) {
	sieve := Of(numbers(16384))
	for b.Loop() {
		Has(sieve, "12345")
	}
}
