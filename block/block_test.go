package block

import (
	"bytes"
	"math"
	"math/rand"
	"slices"
	"strconv"
	"strings"
	"testing"

	"garner/api"
)

func near(key string, b ...byte) api.Item { return api.Item{Key: key, Cell: api.Cell{Bytes: b}} }

func far(key string, p api.Point) api.Item {
	return api.Item{Key: key, Cell: api.Cell{Far: true, Point: p}}
}

func dead(key string) api.Item { return api.Item{Key: key, Dead: true} }

// numbered is a key by which numbers are in order.
func numbered(n int) string {
	s := strconv.Itoa(n)
	return strings.Repeat("0", 8-len(s)) + s
}

// row is n items in order, of all three kinds.
func row(n int) []api.Item {
	l := make([]api.Item, n)
	for i := range l {
		switch key := numbered(i); i % 3 {
		case 0:
			l[i] = near(key, byte(i), 1)
		case 1:
			l[i] = far(key, api.Point{Seg: 1 + i, At: 2 * i, Len: 3, Sum: uint32(i)})
		case 2:
			l[i] = dead(key)
		}
	}
	return l
}

// deepCopy shares no memory with l.
func deepCopy(l []api.Item) []api.Item {
	l = slices.Clone(l)
	for i := range l {
		l[i].Cell.Bytes = slices.Clone(l[i].Cell.Bytes)
	}
	return l
}

func checkRefused(t *testing.T, l []api.Item) {
	t.Helper()
	if plainIsBlock(l) {
		t.Fatalf("the words say that %v may be put", l)
	}
	if b, err := Put(l); b != nil || err != api.ErrArg {
		t.Fatalf("Put(%v): %v, %d; want nothing, ErrArg", l, b, err)
	}
}

// checkPut asks for the bytes, and Get and Find of them.
func checkPut(t *testing.T, l []api.Item) {
	t.Helper()
	if !plainIsBlock(l) {
		t.Fatalf("the words say that %v may not be put", l)
	}
	b, err := Put(l)
	if err != api.OK || !bytes.Equal(b, plainBytes(l)) {
		t.Fatalf("Put(%v): %v, %d; want %v", l, b, err, plainBytes(l))
	}
	checkGet(t, b, l)
}

func checkGet(t *testing.T, b []byte, want []api.Item) {
	t.Helper()
	l, err := Get(b)
	if err != api.OK || !plainSame(l, want) {
		t.Fatalf("Get(%v): %v, %d; want %v", b, l, err, want)
	}
	for _, x := range want {
		if y, found, err := Find(b, x.Key); err != api.OK || !found || !plainSameItem(x, y) {
			t.Fatalf("Find(%v, %q): %v, %v, %d; want %v", b, x.Key, y, found, err, x)
		}
	}
}

func isZero(x api.Item) bool {
	return x.Key == "" && !x.Dead && !x.Cell.Far && x.Cell.Bytes == nil && x.Cell.Point == api.Point{}
}

// checkNone asks Get and Find, of a key that there may be, and of the empty one.
func checkNone(t *testing.T, b []byte) {
	t.Helper()
	if _, err := plainGet(b); err != api.ErrText {
		t.Fatalf("the words say that %v is a block", b)
	}
	if l, err := Get(b); l != nil || err != api.ErrText {
		t.Fatalf("Get(%v): %v, %d; want no block", b, l, err)
	}
	for _, key := range []string{"", "k", "a"} {
		checkNotFound(t, b, key, api.ErrText)
	}
}

func checkNotFound(t *testing.T, b []byte, key string, want api.Errno) {
	t.Helper()
	if x, found, err := Find(b, key); !isZero(x) || found || err != want {
		t.Fatalf("Find(%v, %q): %v, %v, %d; want nothing, %d", b, key, x, found, err, want)
	}
}

// The chapter's example: of the second one's key one byte is alike, and one more is told.
func TestExample(t *testing.T) {
	b, err := Put([]api.Item{{Key: "ab"}, {Key: "ac"}})
	want := []byte{2, 0, 2, 'a', 'b', 0, 0, 0, 1, 1, 'c', 0, 0, 0}
	if err != api.OK || !bytes.Equal(b, want) {
		t.Errorf("Put: %v, %d; want %v", b, err, want)
	}
	if n := Alike("ab", "ac"); n != 1 {
		t.Errorf("Alike: %d", n)
	}
}

// Bl1: texts whose bytes alike are known; either may be ahead.
func TestAlikeKnown(t *testing.T) {
	long := strings.Repeat("long", 1<<14)
	for _, c := range []struct {
		a, b string
		want int
	}{
		{"", "", 0},
		{"", "a", 0},
		{"", "\x00", 0},
		{"", long, 0},
		{"a", "a", 1},
		{"abc", "abc", 3},
		{"\x00", "\x00", 1},
		{long, strings.Clone(long), 1 << 16},
		{"a", "ab", 1},
		{"abc", "abcdef", 3},
		{"abc", "abc\x00", 3},
		{long, long + "x", 1 << 16},
		{long[:mostKey+1], long, mostKey + 1},
		{"a", "b", 0},
		{"abc", "xbc", 0},
		{"\x00abc", "\xffabc", 0},
		{"abc", "abd", 2},
		{"abcxdef", "abcydef", 3},
		{"ab\x00", "ab\xff", 2},
		{"\xff\xff\x00", "\xff\xff", 2},
		{"a", "A", 0},
		// Letters of two bytes of which the first is alike: bytes are counted, not letters.
		{"é", "è", 1},
		{"éé", "éè", 3},
		{"\xc3\x28", "\xc3", 1},
		{"\xff", "\xfe", 0},
		{"\x80", "\x81", 0},
	} {
		if n := Alike(c.a, c.b); n != c.want {
			t.Errorf("Alike(%.20q, %.20q): %d, want %d", c.a, c.b, n, c.want)
		}
		if n := Alike(c.b, c.a); n != c.want {
			t.Errorf("Alike(%.20q, %.20q): %d, want %d", c.b, c.a, n, c.want)
		}
	}
}

// Bl1: Alike of texts that are unlike at one place alone, and of any bytes.
func TestAlikeAsTheWordsSay(t *testing.T) {
	r := newSource()
	for n := 1; n < 100; n++ {
		for at := range n {
			a := someBytes(r, n)
			b := slices.Clone(a)
			b[at] ^= 1 << r.Intn(8)
			if got := Alike(string(a), string(b)); got != at {
				t.Fatalf("Alike(%q, %q): %d, want %d", a, b, got, at)
			}
		}
	}
	for range 20000 {
		a, b := someKey(r), someKey(r)
		if got := Alike(a, b); got != plainAlike(a, b) || got != plainAlike(b, a) {
			t.Fatalf("Alike(%q, %q): %d, want %d", a, b, got, plainAlike(a, b))
		}
	}
}

// Bl1: bytes that are known.
func TestPutKnown(t *testing.T) {
	k64 := strings.Repeat("k", 64)
	for _, c := range []struct {
		l    []api.Item
		want []byte
	}{
		{[]api.Item{near("k")}, []byte{1, 0, 1, 'k', 0, 0, 0}},
		{[]api.Item{dead("k")}, []byte{1, 0, 1, 'k', 1}},
		{[]api.Item{near("k", 7, 8)}, []byte{1, 0, 1, 'k', 0, 0, 2, 7, 8}},
		{[]api.Item{far("k", api.Point{Seg: 1, At: 2, Len: 3, Sum: 4})}, []byte{1, 0, 1, 'k', 0, 1, 1, 2, 3, 4, 0, 0, 0}},
		{
			[]api.Item{far("\x00\xff", api.Point{Seg: mostCount, At: 300, Len: 4096, Sum: 0x04030201})},
			[]byte{1, 0, 2, 0, 255, 0, 1, 255, 255, 255, 255, 7, 172, 2, 128, 32, 1, 2, 3, 4},
		},
		// Not alike at all.
		{[]api.Item{dead("abc"), dead("bbc"), dead("c")}, []byte{3, 0, 3, 'a', 'b', 'c', 1, 0, 3, 'b', 'b', 'c', 1, 0, 1, 'c', 1}},
		// Alike for the whole of the one ahead.
		{[]api.Item{dead("a"), dead("ab"), near("abcd", 9)}, []byte{3, 0, 1, 'a', 1, 1, 1, 'b', 1, 2, 2, 'c', 'd', 0, 0, 1, 9}},
		// Alike with the one ahead, and not with the one ahead of that.
		{[]api.Item{dead("abc"), dead("b"), dead("bd")}, []byte{3, 0, 3, 'a', 'b', 'c', 1, 0, 1, 'b', 1, 1, 1, 'd', 1}},
		{[]api.Item{near("ab"), dead("abz"), near("ac")}, []byte{3, 0, 2, 'a', 'b', 0, 0, 0, 2, 1, 'z', 1, 1, 1, 'c', 0, 0, 0}},
		// Bytes, not letters.
		{[]api.Item{dead("è"), dead("é")}, []byte{2, 0, 2, 0xc3, 0xa8, 1, 1, 1, 0xa9, 1}},
		{[]api.Item{dead(k64[:63]), dead(k64)}, slices.Concat([]byte{2, 0, 63}, []byte(k64[:63]), []byte{1, 63, 1, 'k', 1})},
		{[]api.Item{dead(k64[:63] + "a"), dead(k64)}, slices.Concat([]byte{2, 0, 64}, []byte(k64[:63]), []byte{'a', 1, 63, 1, 'k', 1})},
	} {
		if b, err := Put(c.l); err != api.OK || !bytes.Equal(b, c.want) {
			t.Errorf("Put(%v): %v, %d; want %v", c.l, b, err, c.want)
		}
		checkPut(t, c.l)
	}
}

// Bl1, R5: how many items there are: none, and no list; 1 to 256; more.
func TestPutByLength(t *testing.T) {
	checkRefused(t, nil)
	checkRefused(t, []api.Item{})
	checkRefused(t, make([]api.Item, 0, 9))
	for n := 1; n <= 256; n++ {
		checkPut(t, row(n))
	}
	for _, n := range []int{257, 258, 300, 511, 512, 513, 1000, 65536, 65537, 65792} {
		checkRefused(t, row(n))
	}
	// More than 127 are told by two bytes.
	for n, head := range map[int][]byte{1: {1}, 127: {127}, 128: {128, 1}, 255: {255, 1}, 256: {128, 2}} {
		if b, err := Put(row(n)); err != api.OK || !bytes.HasPrefix(b, append(head, 0, 8)) {
			t.Errorf("Put of %d items: %v, %d", n, b[:min(len(b), 5)], err)
		}
	}
}

// Bl1: items not in order, and a key twice, at each place.
func TestPutByOrder(t *testing.T) {
	for _, n := range []int{2, 3, 10, mostBlock} {
		for i := 1; i < n; i++ {
			swapped := row(n)
			swapped[i-1], swapped[i] = swapped[i], swapped[i-1]
			checkRefused(t, swapped)
			twice := row(n)
			twice[i].Key = twice[i-1].Key
			checkRefused(t, twice)
			first := row(n)
			first[i].Key = first[0].Key
			checkRefused(t, first)
		}
		falling := row(n)
		slices.Reverse(falling)
		checkRefused(t, falling)
	}
	for _, keys := range [][]string{{"b", "a"}, {"ab", "a"}, {"a\x00", "a"}, {"\x80", "\x7f"}, {"\xff", "\x00"}, {"é", "z"}, {"a", "B"}, {"10", "1"}} {
		checkRefused(t, []api.Item{dead(keys[0]), near(keys[1])})
		checkPut(t, []api.Item{dead(keys[1]), near(keys[0])})
	}
	for _, l := range [][]api.Item{{dead("k"), dead("k")}, {near("k"), dead("k")}, {near("k"), near("k", 7)}} {
		checkRefused(t, l)
	}
}

// Bl1: keys of every length, of any bytes.
func TestPutOfKeys(t *testing.T) {
	for n := range 300 {
		for _, s := range []string{"\x00", "k", "\x80", "\xff"} {
			key := strings.Repeat(s, n)
			check := checkRefused
			if n >= 1 && n <= 64 {
				check = checkPut
			}
			check(t, []api.Item{near(key, 7)})
			check(t, []api.Item{dead(key)})
			check(t, []api.Item{far(key, api.Point{Seg: 1})})
		}
	}
	for _, key := range []string{"", strings.Repeat("a", mostKey+1), strings.Repeat("b", 1000)} {
		checkRefused(t, []api.Item{dead("a"), dead(key)})
		checkRefused(t, []api.Item{dead(key), dead("z")})
	}
}

// rightCells may be; the first two are nought.
func rightCells() []api.Cell {
	return []api.Cell{
		{},
		{Bytes: []byte{}},
		{Bytes: []byte{0}},
		{Bytes: []byte{1, 2, 3}},
		{Bytes: make([]byte, mostPlain)},
		{Bytes: bytes.Repeat([]byte{255}, mostPlain)},
		{Far: true, Point: api.Point{Seg: 1}},
		{Far: true, Bytes: []byte{}, Point: api.Point{Seg: 1, At: 2, Len: 3, Sum: 4}},
		{Far: true, Point: api.Point{Seg: mostCount, At: mostCount, Len: mostValue, Sum: math.MaxUint32}},
	}
}

func wrongCells() []api.Cell {
	l := []api.Cell{
		{Bytes: make([]byte, mostPlain+1)},
		{Bytes: make([]byte, 128)},
		{Bytes: make([]byte, mostValue)},
		{Point: api.Point{Seg: 1}},
		{Point: api.Point{At: 1}},
		{Point: api.Point{Len: 1}},
		{Point: api.Point{Sum: 1}},
		{Far: true},
		{Far: true, Bytes: []byte{7}},
		{Far: true, Bytes: []byte{7}, Point: api.Point{Seg: 1}},
		{Far: true, Point: api.Point{Seg: 1, Len: mostValue + 1}},
	}
	for _, n := range []int{-1, mostCount + 1, 1 << 32, 1<<32 + 1, math.MaxInt, math.MinInt} {
		for _, p := range []api.Point{{Seg: n}, {Seg: 1, At: n}, {Seg: 1, Len: n}} {
			l = append(l, api.Cell{Far: true, Point: p})
		}
	}
	return l
}

// Bl1: Cells that may be and that may not; of a Dead item only nought; alone, and between others.
func TestPutOfCells(t *testing.T) {
	between := func(x api.Item) []api.Item { return []api.Item{near("a", 1), x, dead("z")} }
	for i, c := range rightCells() {
		live, gone := api.Item{Key: "k", Cell: c}, api.Item{Key: "k", Dead: true, Cell: c}
		check := checkRefused
		if i < 2 {
			check = checkPut
		}
		checkPut(t, []api.Item{live})
		checkPut(t, between(live))
		check(t, []api.Item{gone})
		check(t, between(gone))
	}
	for _, c := range wrongCells() {
		for _, isDead := range []bool{false, true} {
			x := api.Item{Key: "k", Dead: isDead, Cell: c}
			checkRefused(t, []api.Item{x})
			checkRefused(t, between(x))
		}
	}
}

// Bl1: Put as the words say, of items in order, and of such as are turned in one thing.
func TestPutAsTheWordsSay(t *testing.T) {
	r := newSource()
	good, bad := 0, 0
	for range 5000 {
		l := someItems(r, 1+r.Intn(64)>>r.Intn(7))
		checkPut(t, l)
		x := &l[r.Intn(len(l))]
		switch r.Intn(6) {
		case 0:
			x.Key = string(someBytes(r, r.Intn(70)))
		case 1:
			x.Key += "\x00"
		case 2:
			x.Key = x.Key[:len(x.Key)-1]
		case 3:
			x.Dead = !x.Dead
		case 4:
			x.Cell = someCell(r)
		case 5:
			l = append(l, someItem(r))
		}
		if plainIsBlock(l) {
			good++
			checkPut(t, l)
		} else {
			bad++
			checkRefused(t, l)
		}
	}
	if good < 500 || bad < 500 {
		t.Errorf("only %d were blocks, and %d were none", good, bad)
	}
}

// someBlocks are of all kinds of items, few and many.
func someBlocks(r *rand.Rand) [][]api.Item {
	list := [][]api.Item{
		{near("k")}, {dead("k")}, {near("k", 7)}, {far("k", api.Point{Seg: 300, At: 301, Len: 302, Sum: 0x01020304})},
		{near("a", 7), dead("ab"), far("abc", api.Point{Seg: 300, At: 301, Len: 302, Sum: 0x01020304}), near("b")},
		{near(strings.Repeat("k", mostKey), make([]byte, mostPlain)...), dead("l")},
		row(30),
	}
	for range 200 {
		list = append(list, someItems(r, 1+r.Intn(8)))
	}
	return list
}

// Bl1: no bytes, and bytes that end within a block's, wherever that is.
func TestGetOfBeginnings(t *testing.T) {
	checkNone(t, nil)
	checkNone(t, []byte{})
	checkNone(t, make([]byte, 0, 9))
	for _, l := range someBlocks(newSource()) {
		b := plainBytes(l)
		checkGet(t, b, l)
		for end := range b {
			checkNone(t, b[:end])
			checkNone(t, slices.Clip(slices.Clone(b[:end])))
		}
	}
	b := plainBytes(row(mostBlock))
	for end := range b {
		checkNone(t, b[:end])
	}
}

// Bl1: bytes behind a block's, also such as are an item's, or a block's.
func TestGetOfMoreBytes(t *testing.T) {
	r := newSource()
	for _, l := range append(someBlocks(r), row(mostBlock)) {
		b := plainBytes(l)
		last := l[len(l)-1].Key
		for _, behind := range [][]byte{
			{0}, {1}, {128}, {255}, {0, 0}, {0, 0, 0}, {0, 0, 1}, b, someBytes(r, 1+r.Intn(40)), make([]byte, 5000),
			oneBytes(len(last), "x", dead("")), oneBytes(0, "\xff\xff", near("", 7)),
		} {
			checkNone(t, slices.Concat(b, behind))
		}
	}
}

// wrongNumbers are no number's bytes: more than they need, or of more than 64 bits, or without an end.
func wrongNumbers() [][]byte {
	return [][]byte{
		{128, 0},
		{129, 0},
		{130, 0},
		{129, 128, 0},
		{130, 128, 128, 0},
		{128, 128, 128, 128, 0},
		append(bytes.Repeat([]byte{128}, 9), 2),
		append(bytes.Repeat([]byte{129}, 9), 2),
		append(bytes.Repeat([]byte{128}, 10), 1),
		bytes.Repeat([]byte{255}, 30),
		{128},
		{255, 255},
	}
}

// Bl1: numbers of a block that are none, in each place.
func TestGetOfWrongNumbers(t *testing.T) {
	checkGet(t, []byte{2, 0, 1, 'k', 1, 1, 1, 'l', 0, 0, 1, 'v'}, []api.Item{dead("k"), near("kl", 'v')})
	for _, bad := range wrongNumbers() {
		for _, behind := range [][]byte{nil, make([]byte, 100)} {
			checkNone(t, slices.Concat(bad, []byte{0, 1, 'k', 1, 1, 1, 'l', 0, 0, 1, 'v'}, behind))
			checkNone(t, slices.Concat([]byte{2}, bad, []byte{1, 'k', 1, 1, 1, 'l', 0, 0, 1, 'v'}, behind))
			checkNone(t, slices.Concat([]byte{2, 0}, bad, []byte{'k', 1, 1, 1, 'l', 0, 0, 1, 'v'}, behind))
			checkNone(t, slices.Concat([]byte{2, 0, 1, 'k', 1}, bad, []byte{1, 'l', 0, 0, 1, 'v'}, behind))
			checkNone(t, slices.Concat([]byte{2, 0, 1, 'k', 1, 1}, bad, []byte{'l', 0, 0, 1, 'v'}, behind))
			checkNone(t, slices.Concat([]byte{2, 0, 1, 'k', 1, 1, 1, 'l', 0, 0}, bad, []byte{'v'}, behind))
			checkNone(t, slices.Concat([]byte{2, 0, 1, 'k', 1, 1, 1, 'l', 0, 1}, bad, []byte{1, 1, 0, 0, 0, 0}, behind))
		}
	}
	// The right number, in one byte more than it needs.
	checkNone(t, []byte{130, 0, 0, 1, 'k', 1, 1, 1, 'l', 1})
	checkNone(t, []byte{2, 128, 0, 1, 'k', 1, 1, 1, 'l', 1})
	checkNone(t, []byte{2, 0, 129, 0, 'k', 1, 1, 1, 'l', 1})
	checkNone(t, []byte{2, 0, 1, 'k', 1, 129, 0, 1, 'l', 1})
	checkNone(t, []byte{2, 0, 1, 'k', 1, 1, 129, 0, 'l', 1})
}

// great are numbers that nothing in a block has; taken as fewer bits, or less by a little, some would be.
func great() []uint64 {
	return []uint64{1 << 16, mostCount, 1 << 31, 1 << 32, 1<<32 + 1, 1<<32 + 2, 1<<63 - 1, 1 << 63, 1<<63 + 1, math.MaxUint64 - 63, math.MaxUint64 - 1, math.MaxUint64}
}

// Bl1: a count that is 0, or more than there can be, or not how many follow.
func TestGetOfWrongCounts(t *testing.T) {
	for _, n := range []int{1, 2, 3, 127, 128, 255, 256} {
		l := row(n)
		checkGet(t, countedBytes(uint64(n), l...), l)
		for other := range uint64(260) {
			if other != uint64(n) {
				checkNone(t, countedBytes(other, l...))
			}
		}
	}
	checkNone(t, []byte{0})
	for _, n := range append(great(), 257, 258, 512, 513, 1000) {
		checkNone(t, countedBytes(n))
		checkNone(t, countedBytes(n, row(1)...))
		checkNone(t, countedBytes(n, row(2)...))
		checkNone(t, countedBytes(n, row(mostBlock)...))
	}
	for _, n := range []int{257, 258, 512, 1000, 65537} {
		checkNone(t, plainBytes(row(n)))
	}
}

// Bl1: of the first key 0 bytes are alike; of another not more than the one ahead has.
func TestGetOfTooManyAlike(t *testing.T) {
	for alike := 1; alike < 140; alike++ {
		checkNone(t, slices.Concat([]byte{1}, oneBytes(alike, "k", dead(""))))
		checkNone(t, slices.Concat([]byte{1}, oneBytes(alike, "", dead(""))))
	}
	for n := 1; n < mostKey; n++ {
		ahead := strings.Repeat("k", n)
		head := slices.Concat([]byte{2}, oneBytes(0, ahead, dead("")))
		checkGet(t, slices.Concat(head, oneBytes(n, "x", dead(""))), []api.Item{dead(ahead), dead(ahead + "x")})
		for alike := n + 1; alike < 140; alike++ {
			checkNone(t, slices.Concat(head, oneBytes(alike, "x", dead(""))))
			checkNone(t, slices.Concat(head, oneBytes(alike, "", near(""))))
		}
	}
	for _, u := range great() {
		checkNone(t, slices.Concat([]byte{1}, number(u), []byte{1, 'k', 1}))
		checkNone(t, slices.Concat([]byte{2, 0, 1, 'k', 1}, number(u), []byte{1, 'l', 1}))
		// Together with it, as 64 bits, more and alike are few.
		checkNone(t, slices.Concat([]byte{2, 0, 1, 'k', 1}, number(u), number(-u+1), []byte{'l', 1}))
		checkNone(t, slices.Concat([]byte{2, 0, 1, 'k', 1}, number(1), number(u), []byte{'l', 1}))
	}
	// The one ahead counts, not one further ahead.
	checkNone(t, []byte{3, 0, 3, 'a', 'b', 'c', 1, 0, 1, 'b', 1, 2, 1, 'd', 1})
}

// Bl1, Bl2: fewer bytes alike than there are, however many.
func TestGetOfTooFewAlike(t *testing.T) {
	for n := 1; n < mostKey; n++ {
		ahead := strings.Repeat("k", n)
		for _, key := range []string{ahead + "x", ahead[:n-1] + "x", ahead + "\x00"} {
			l := []api.Item{dead(ahead), near(key, 7)}
			alike := plainAlike(ahead, key)
			head := slices.Concat([]byte{2}, oneBytes(0, ahead, l[0]))
			checkGet(t, slices.Concat(head, oneBytes(alike, key[alike:], l[1])), l)
			for fewer := range alike {
				checkNone(t, slices.Concat(head, oneBytes(fewer, key[fewer:], l[1])))
			}
		}
	}
}

// Bl1: how many more bytes a key has: none, too many for a key, more than there are.
func TestGetOfWrongKeys(t *testing.T) {
	for n := range 300 {
		for _, x := range []api.Item{dead(strings.Repeat("k", n)), near(strings.Repeat("k", n), 7)} {
			if b := countedBytes(1, x); n >= 1 && n <= 64 {
				checkGet(t, b, []api.Item{x})
			} else {
				checkNone(t, b)
			}
		}
	}
	// Those alike count too.
	for n := 1; n <= mostKey; n++ {
		for more := 1; more <= mostKey+1; more++ {
			l := []api.Item{dead(strings.Repeat("k", n)), dead(strings.Repeat("k", n) + strings.Repeat("x", more))}
			if b := plainBytes(l); n+more <= 64 {
				checkGet(t, b, l)
			} else {
				checkNone(t, b)
			}
		}
	}
	for _, u := range append(great(), 65, 66, 127, 128, 256, 257) {
		checkNone(t, slices.Concat([]byte{1, 0}, number(u), []byte{'k', 1}))
		checkNone(t, slices.Concat([]byte{1, 0}, number(u), make([]byte, 1<<17)))
	}
	for more := byte(2); more <= mostKey; more++ {
		checkNone(t, []byte{1, 0, more, 'k'})
		checkNone(t, slices.Concat([]byte{1, 0, more}, bytes.Repeat([]byte{'k'}, int(more)-1)))
		checkNone(t, slices.Concat([]byte{1, 0, more}, bytes.Repeat([]byte{'k'}, int(more))))
	}
}

// Bl1: a byte of Dead that is neither 0 nor 1, with a Cell's bytes behind it and without; and with those of the other one.
func TestGetOfWrongDead(t *testing.T) {
	checkGet(t, []byte{2, 0, 1, 'k', 1, 0, 1, 'l', 1}, []api.Item{dead("k"), dead("l")})
	checkGet(t, []byte{2, 0, 1, 'k', 0, 0, 0, 0, 1, 'l', 0, 0, 0}, []api.Item{near("k"), near("l")})
	for x := 2; x < 256; x++ {
		mark := byte(x)
		checkNone(t, []byte{1, 0, 1, 'k', mark})
		checkNone(t, []byte{1, 0, 1, 'k', mark, 0, 0})
		checkNone(t, []byte{2, 0, 1, 'k', mark, 0, 1, 'l', 1})
		checkNone(t, []byte{2, 0, 1, 'k', 1, 0, 1, 'l', mark})
		checkNone(t, []byte{2, 0, 1, 'k', 1, 0, 1, 'l', mark, 0, 0})
	}
	for _, c := range rightCells() {
		checkNone(t, append([]byte{1, 0, 1, 'k', 1}, cellBytes(c)...))
	}
	checkNone(t, []byte{1, 0, 1, 'k', 0})
}

// Bl1: items that are not in order, a key twice, at each place.
func TestGetOfWrongOrder(t *testing.T) {
	for _, n := range []int{2, 3, 10, mostBlock} {
		for i := 1; i < n; i++ {
			swapped := row(n)
			swapped[i-1], swapped[i] = swapped[i], swapped[i-1]
			checkNone(t, plainBytes(swapped))
			twice := row(n)
			twice[i].Key = twice[i-1].Key
			checkNone(t, plainBytes(twice))
		}
		falling := row(n)
		slices.Reverse(falling)
		checkNone(t, plainBytes(falling))
	}
	for _, keys := range [][]string{{"b", "a"}, {"ab", "a"}, {"a\x00", "a"}, {"\x80", "\x7f"}, {"\xff", "\x00"}, {"é", "z"}, {"a", "B"}, {"k", "k"}, {"a", ""}, {"", "a"}, {"", ""}} {
		checkNone(t, plainBytes([]api.Item{dead(keys[0]), near(keys[1])}))
	}
}

// Bl1: Cells that there can't be, alone and between others.
func TestGetOfWrongCells(t *testing.T) {
	for _, c := range rightCells() {
		x := api.Item{Key: "k", Cell: c}
		checkGet(t, countedBytes(1, x), []api.Item{x})
	}
	for _, c := range wrongCells() {
		// A near cell's bytes do not tell its Point, nor a far one's its Bytes.
		told := c
		if c.Far {
			told.Bytes = nil
		} else {
			told.Point = api.Point{}
		}
		x := api.Item{Key: "k", Cell: told}
		if plainMayBe(x) {
			continue
		}
		checkNone(t, countedBytes(1, x))
		checkNone(t, countedBytes(3, near("a"), x, dead("z")))
		checkNone(t, append(countedBytes(1, x), make([]byte, 100)...))
	}
	for first := 2; first < 256; first++ {
		checkNone(t, []byte{1, 0, 1, 'k', 0, byte(first), 0})
		checkNone(t, []byte{1, 0, 1, 'k', 0, byte(first), 1, 2, 3, 4, 0, 0, 0})
	}
}

// mixedBytes are such that many of them begin as a block's do.
func mixedBytes(r *rand.Rand, n int) []byte {
	palette := []byte{0, 0, 0, 0, 1, 1, 1, 1, 2, 2, 3, 32, 33, 64, 65, 127, 128, 255}
	b := someBytes(r, n)
	for i := range b {
		if r.Intn(6) > 0 {
			b[i] = palette[r.Intn(len(palette))]
		}
	}
	return b
}

// checkAsTheWordsSay asks Get and Find; it tells whether there was a block.
func checkAsTheWordsSay(t *testing.T, b []byte, keys ...string) bool {
	t.Helper()
	want, wantErr := plainGet(b)
	l, err := Get(b)
	if err != wantErr || !plainSame(l, want) || err != api.OK && l != nil {
		t.Fatalf("Get(%v): %v, %d; want %v, %d", b, l, err, want, wantErr)
	}
	for _, key := range keys {
		want, wantFound, wantErr := plainFind(b, key)
		x, found, err := Find(b, key)
		if err != wantErr || found != wantFound || !plainSameItem(x, want) {
			t.Fatalf("Find(%v, %q): %v, %v, %d; want %v, %v, %d", b, key, x, found, err, want, wantFound, wantErr)
		}
	}
	return err == api.OK
}

// Bl1, Bl2: Get and Find as the words say, of mixed bytes, and of blocks' bytes that are spoilt.
func TestGetAsTheWordsSay(t *testing.T) {
	r := newSource()
	blocks, others := 0, 0
	check := func(b []byte) {
		if checkAsTheWordsSay(t, b, "a", someKey(r)) {
			blocks++
		} else {
			others++
		}
	}
	for range 30000 {
		check(mixedBytes(r, r.Intn(24)))
		b := plainBytes(someItems(r, 1+r.Intn(4)))
		check(b)
		at := r.Intn(len(b))
		check(slices.Concat(b[:at], b[at+1:]))
		check(slices.Concat(b[:at], mixedBytes(r, 1+r.Intn(2)), b[at:]))
		b[at] ^= 1 << r.Intn(8)
		check(b)
	}
	if blocks < 40000 || others < 40000 {
		t.Errorf("only %d blocks, and %d others, came up", blocks, others)
	}
}

// Bl1, Bl2: all bytes up to eight, made of the few that matter most: of whatever is a block, the bytes are just those that Put makes.
func TestGetOfAllShortBytes(t *testing.T) {
	few := []byte{0, 1, 2, 3, 128}
	found := 0
	var grow func(b []byte)
	grow = func(b []byte) {
		if checkAsTheWordsSay(t, b) {
			found++
			l, _ := Get(b)
			if again, err := Put(l); err != api.OK || !bytes.Equal(again, b) {
				t.Fatalf("%v are put as %v, %d; not as %v", l, again, err, b)
			}
		}
		if len(b) == 8 {
			return
		}
		for _, x := range few {
			grow(append(b, x))
		}
	}
	grow(make([]byte, 0, 8))
	if found < 100 {
		t.Errorf("only %d blocks came up", found)
	}
}

// Bl1: each key of a block, of 1 to 256 items; keys ahead of all, between two and behind all; the empty one.
func TestFindKnown(t *testing.T) {
	for _, n := range []int{1, 2, 3, 4, 7, 100, 255, 256} {
		var l []api.Item
		for i, x := range row(2*n + 1) {
			if i%2 == 1 {
				l = append(l, x)
			}
		}
		b := plainBytes(l)
		checkGet(t, b, l)
		for i := 0; i <= 2*n; i += 2 {
			checkNotFound(t, b, numbered(i), api.OK)
		}
		for _, key := range []string{"", "\x00", "0", "000", "zzz", "\xff", strings.Repeat("\xff", mostKey), strings.Repeat("0", mostKey), strings.Repeat("x", 5000)} {
			checkNotFound(t, b, key, api.OK)
		}
		for _, x := range l {
			checkNotFound(t, b, x.Key+"\x00", api.OK)
			checkNotFound(t, b, x.Key[:len(x.Key)-1], api.OK)
			checkNotFound(t, b, "x"+x.Key[1:], api.OK)
		}
	}
}

// Bl1: a Dead item is found too.
func TestFindDead(t *testing.T) {
	b, _ := Put([]api.Item{near("a", 1), dead("b"), near("c", 3)})
	if x, found, err := Find(b, "b"); err != api.OK || !found || !x.Dead || x.Key != "b" {
		t.Errorf("Find: %v, %v, %d", x, found, err)
	}
}

// Bl1: bytes that are wrong only behind the key, or behind the block, are no block.
func TestFindOfNoBlock(t *testing.T) {
	b := plainBytes([]api.Item{near("a", 1), dead("b"), near("c", 3)})
	for _, bad := range [][]byte{b[:len(b)-1], append(slices.Clone(b), 0), slices.Concat(b, b), plainBytes([]api.Item{dead("a"), dead("c"), dead("b")}), nil, {}, {0}, {1}, {255}} {
		for _, key := range []string{"a", "b", "c", "", "aa", "zz"} {
			checkNotFound(t, bad, key, api.ErrText)
		}
	}
}

// Bl1: Find as the words say.
func TestFindAsTheWordsSay(t *testing.T) {
	r := newSource()
	found, others := 0, 0
	for range 3000 {
		l := someItems(r, 1+r.Intn(40))
		b := plainBytes(l)
		near := l[r.Intn(len(l))].Key
		for _, key := range []string{near, near + "a", near[:r.Intn(len(near))], someKey(r)} {
			checkAsTheWordsSay(t, b, key)
			if _, ok, _ := Find(b, key); ok {
				found++
			} else {
				others++
			}
		}
	}
	if found < 1000 || others < 1000 {
		t.Errorf("only %d were found, and %d were not", found, others)
	}
}

// Bl2: what is put is got, and each key's item is found.
func TestPutIsGot(t *testing.T) {
	r := newSource()
	for i := range 1000 {
		l := someItems(r, 1+i%mostBlock)
		b, err := Put(l)
		if err != api.OK {
			t.Fatalf("Put(%v): %d", l, err)
		}
		got, err := Get(b)
		if err != api.OK || !plainSame(got, l) {
			t.Fatalf("%v are got as %v, %d", l, got, err)
		}
		for range 10 {
			x := l[r.Intn(len(l))]
			if y, found, err := Find(b, x.Key); err != api.OK || !found || !plainSameItem(x, y) {
				t.Fatalf("%v is found as %v, %v, %d", x, y, found, err)
			}
		}
	}
}

// Bl2: bytes that are turned in any one byte, to any other, are no block of the same items.
func TestNoOtherBytes(t *testing.T) {
	blocks := 0
	for _, l := range someBlocks(newSource())[:20] {
		b := plainBytes(l)
		for at := range b {
			was := b[at]
			for x := range 256 {
				b[at] = byte(x)
				got, err := Get(b)
				if (b[at] == was) != (err == api.OK && plainSame(got, l)) {
					t.Fatalf("Get(%v): %v, %d", b, got, err)
				}
				if err == api.OK {
					blocks++
				}
			}
			b[at] = was
		}
	}
	if blocks < 1000 {
		t.Errorf("only %d were blocks", blocks)
	}
}

// Bl2: of whatever is got, Put makes just these bytes.
func TestGotIsPut(t *testing.T) {
	r := newSource()
	blocks := 0
	for range 50000 {
		b := plainBytes(someItems(r, 1+r.Intn(3)))
		for range r.Intn(3) {
			b[r.Intn(len(b))] = mixedBytes(r, 1)[0]
		}
		l, err := Get(b)
		if err != api.OK {
			continue
		}
		blocks++
		if again, err := Put(l); err != api.OK || !bytes.Equal(again, b) {
			t.Fatalf("Get(%v): %v, which is put as %v, %d", b, l, again, err)
		}
	}
	if blocks < 10000 {
		t.Errorf("only %d were blocks", blocks)
	}
}

// R3: no call writes to what it is handed, nor behind its end.
func TestNothingIsWritten(t *testing.T) {
	r := newSource()
	for range 500 {
		whole := someItems(r, 20)
		for i, x := range whole {
			// Bytes that stand in longer memory.
			whole[i].Cell.Bytes = append(x.Cell.Bytes, 1, 2, 3)[:len(x.Cell.Bytes)]
		}
		if r.Intn(3) == 0 {
			whole[r.Intn(20)].Key = ""
		}
		var memory [][]byte
		for _, x := range whole {
			memory = append(memory, slices.Clone(x.Cell.Bytes[:cap(x.Cell.Bytes)]))
		}
		kept := deepCopy(whole)
		Put(whole[:r.Intn(21)])
		Put(whole)
		if !plainSame(whole, kept) {
			t.Fatal("Put wrote to its items")
		}
		for i, x := range whole {
			if !bytes.Equal(memory[i], x.Cell.Bytes[:cap(x.Cell.Bytes)]) {
				t.Fatal("Put wrote to a cell's bytes, or behind them")
			}
		}
		l := someItems(r, 1+r.Intn(9))
		b := append(plainBytes(l), mixedBytes(r, 30)...)
		keptBytes := slices.Clone(b)
		end := r.Intn(len(b))
		for _, part := range [][]byte{b[:len(b)-30], b, b[:end]} {
			Get(part)
			Find(part, l[0].Key)
			Find(part, "")
		}
		if !bytes.Equal(b, keptBytes) {
			t.Fatal("Get or Find wrote to its bytes")
		}
	}
}

// spoil turns all that can be reached from b.
func spoil(b []byte) {
	for i := range b[:cap(b)] {
		b[:cap(b)][i] ^= 255
	}
}

// spoilItems turns all that can be reached from l.
func spoilItems(l []api.Item) {
	for i := range l {
		spoil(l[i].Cell.Bytes)
	}
	whole := l[:cap(l)]
	for i := range whole {
		whole[i] = dead("spoilt")
	}
}

// R3: what Put tells is no part of what was handed in, nor of another answer.
func TestPutIsNew(t *testing.T) {
	r := newSource()
	for range 500 {
		l := someItems(r, 1+r.Intn(20))
		kept := deepCopy(l)
		first, _ := Put(l)
		second, _ := Put(l)
		spoil(first)
		if !plainSame(l, kept) {
			t.Fatal("what Put tells is a part of its items")
		}
		spoilItems(l)
		if !bytes.Equal(second, plainBytes(kept)) {
			t.Fatal("what Put tells shares memory")
		}
	}
}

// R3: what Get tells is no part of its bytes, nor of another answer; and no two lists of one answer share any.
func TestGetIsNew(t *testing.T) {
	r := newSource()
	for range 500 {
		l := someItems(r, 1+r.Intn(20))
		b := plainBytes(l)
		kept := slices.Clone(b)
		first, _ := Get(b)
		second, _ := Get(b)
		third, _ := Get(b)
		spoilItems(first)
		if !bytes.Equal(b, kept) {
			t.Fatal("what Get tells is a part of its bytes")
		}
		spoil(b)
		if !plainSame(second, l) {
			t.Fatal("what Get tells shares memory with its bytes, or with another answer")
		}
		for i := range third {
			spoil(third[i].Cell.Bytes)
			if !plainSame(third[i+1:], l[i+1:]) {
				t.Fatal("lists of one answer share memory")
			}
		}
	}
}

// R3: what Find tells is no part of its bytes, nor of another answer.
func TestFindIsNew(t *testing.T) {
	r := newSource()
	for range 500 {
		l := someItems(r, 1+r.Intn(20))
		b := plainBytes(l)
		kept := slices.Clone(b)
		want := l[r.Intn(len(l))]
		first, _, _ := Find(b, want.Key)
		second, _, _ := Find(b, want.Key)
		spoil(first.Cell.Bytes)
		if !bytes.Equal(b, kept) {
			t.Fatal("what Find tells is a part of its bytes")
		}
		spoil(b)
		if !plainSameItem(second, want) {
			t.Fatal("what Find tells shares memory with its bytes, or with another answer")
		}
	}
}

// R4: the same answers, again and again, whatever the memory around is and whatever was asked in between.
func TestSameAgain(t *testing.T) {
	r := newSource()
	for range 3000 {
		b := plainBytes(someItems(r, 1+r.Intn(4)))
		if r.Intn(2) == 0 {
			b[r.Intn(len(b))] ^= 1 << r.Intn(8)
		}
		key := someKey(r)
		long := append(slices.Clone(b), mixedBytes(r, 20)...)
		l, err := Get(long[:len(b)])
		x, found, findErr := Find(long[:len(b)], key)
		Get(mixedBytes(r, 12))
		Put(someItems(r, 3))
		clipped := slices.Clip(slices.Clone(b))
		l2, err2 := Get(clipped)
		y, found2, findErr2 := Find(clipped, strings.Clone(key))
		if err != err2 || !plainSame(l, l2) || findErr != findErr2 || found != found2 || !plainSameItem(x, y) {
			t.Fatalf("Get or Find of %v answers otherwise", b)
		}
		if err != api.OK {
			continue
		}
		put1, err := Put(l)
		put2, err2 := Put(append(deepCopy(l), api.Item{})[:len(l)])
		if err != err2 || !bytes.Equal(put1, put2) {
			t.Fatalf("Put(%v) answers otherwise", l)
		}
	}
}

// R1, R5: the zero item may not be; empty Bytes, or none, are the same, also of a Dead item.
func TestZeroValues(t *testing.T) {
	checkRefused(t, make([]api.Item, 1))
	checkRefused(t, make([]api.Item, 2))
	checkRefused(t, []api.Item{dead("a"), {}})
	for _, isDead := range []bool{false, true} {
		with, err := Put([]api.Item{{Key: "k", Dead: isDead, Cell: api.Cell{Bytes: []byte{}}}})
		without, err2 := Put([]api.Item{{Key: "k", Dead: isDead}})
		if err != api.OK || err2 != api.OK || !bytes.Equal(with, without) {
			t.Errorf("empty Bytes are put as %v, %d; none as %v, %d", with, err, without, err2)
		}
	}
}

// P1: Get and Find end, and do not panic, at bytes of any kind; what is got is put as just these bytes.
func FuzzGet(f *testing.F) {
	r := newSource()
	for n := range 16 {
		l := someItems(r, n+1)
		f.Add(plainBytes(l), l[n/2].Key)
	}
	f.Add(plainBytes(row(mostBlock)), numbered(7))
	f.Add([]byte{}, "")
	f.Fuzz(func(t *testing.T, b []byte, key string) {
		if !checkAsTheWordsSay(t, b, key, "") {
			return
		}
		l, _ := Get(b)
		if again, err := Put(l); err != api.OK || !bytes.Equal(again, b) {
			t.Fatalf("%v are put as %v, %d; not as %v", l, again, err, b)
		}
	})
}

// P1: Put and Alike end, and do not panic, at items and texts of any kind.
func FuzzPut(f *testing.F) {
	f.Add("a", "b", false, true, []byte{7}, 0, 0, 0)
	f.Add("", "", true, true, []byte{}, 1, 2, 3)
	f.Add("ab", "ac", false, false, []byte(nil), 1, 0, 4096)
	f.Add("\xff", "\x00", false, false, make([]byte, 33), -1, 1<<31, 1<<62)
	f.Fuzz(func(t *testing.T, a, b string, deadA, farB bool, value []byte, seg, at, size int) {
		if got := Alike(a, b); got != plainAlike(a, b) || got != Alike(b, a) {
			t.Errorf("Alike(%q, %q): %d", a, b, got)
		}
		l := []api.Item{{Key: a, Dead: deadA, Cell: api.Cell{Bytes: value}}, {Key: b, Cell: api.Cell{Far: farB, Point: api.Point{Seg: seg, At: at, Len: size}}}}
		for _, items := range [][]api.Item{l, l[:1], l[1:], {l[1], l[0]}, {{Key: a}, {Key: b, Dead: true}}} {
			if plainIsBlock(items) {
				checkPut(t, items)
			} else {
				checkRefused(t, items)
			}
		}
	})
}

func BenchmarkPut(b *testing.B) {
	l := row(mostBlock)
	for b.Loop() {
		Put(l)
	}
}

func BenchmarkGet(b *testing.B) {
	whole := plainBytes(row(mostBlock))
	for b.Loop() {
		Get(whole)
	}
}

func BenchmarkFind(b *testing.B) {
	whole := plainBytes(row(mostBlock))
	for b.Loop() {
		Find(whole, numbered(100))
	}
}
