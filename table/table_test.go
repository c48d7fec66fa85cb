package table

import (
	"bytes"
	"math"
	"slices"
	"strconv"
	"strings"
	"testing"

	"garner/api"
	"garner/tree"
)

func near(key string, b ...byte) api.Item { return api.Item{Key: key, Cell: api.Cell{Bytes: b}} }

func far(key string, p api.Point) api.Item {
	return api.Item{Key: key, Cell: api.Cell{Far: true, Point: p}}
}

func dead(key string) api.Item { return api.Item{Key: key, Dead: true} }

// numbered is a key by which numbers are in order.
func numbered(n int) string {
	s := strconv.Itoa(n)
	return strings.Repeat("0", 8-len(s)) + s
}

// row is n items in order, of all three kinds; their keys have 8 bytes each, and so there are keys between them.
func row(n int) []api.Item {
	l := make([]api.Item, n)
	for i := range l {
		switch key := numbered(2*i + 1); i % 3 {
		case 0:
			l[i] = near(key, byte(i), 1)
		case 1:
			l[i] = far(key, api.Point{Seg: 1 + i, At: 2 * i, Len: 3, Sum: uint32(i)})
		case 2:
			l[i] = dead(key)
		}
	}
	return l
}

// deepCopy shares no memory with l.
func deepCopy(l []api.Item) []api.Item {
	l = slices.Clone(l)
	for i := range l {
		l[i].Cell.Bytes = slices.Clone(l[i].Cell.Bytes)
	}
	return l
}

func isZero(x api.Item) bool {
	return x.Key == "" && !x.Dead && !x.Cell.Far && x.Cell.Bytes == nil && x.Cell.Point == api.Point{}
}

// few is a list's beginning: enough to tell by which it is.
func few[T any](l []T) []T { return l[:min(len(l), 40)] }

func mustOpen(t *testing.T, b []byte) *Table {
	t.Helper()
	table, err := Open(b)
	if err != api.OK || table == nil {
		t.Fatalf("Open of %d bytes (%v): %v, %d", len(b), few(b), table != nil, err)
	}
	return table
}

// checkWhole asks for all that is there, and for its ends.
func checkWhole(t *testing.T, table *Table, want []api.Item) {
	t.Helper()
	if l := table.All(); !plainSame(l, want) {
		t.Fatalf("All: %d items (%v); want %d (%v)", len(l), few(l), len(want), few(want))
	}
	first, last := table.Ends()
	if first != want[0].Key || last != want[len(want)-1].Key || table.Len() != len(want) {
		t.Fatalf("Ends: %q and %q, Len: %d", first, last, table.Len())
	}
}

func checkFind(t *testing.T, table *Table, l []api.Item, key string) {
	t.Helper()
	want, there := plainFind(l, key)
	x, found := table.Find(key)
	if found != there || !plainSameItem(x, want) || !there && !isZero(x) {
		t.Fatalf("Find(%q): %v, %v; want %v, %v", key, x, found, want, there)
	}
	if may := table.May(key); may != plainMay(l, key) || there && !may {
		t.Fatalf("May(%q): %v", key, may)
	}
}

func checkScan(t *testing.T, table *Table, l []api.Item, lo, hi string, most int) {
	t.Helper()
	want := plainScan(l, lo, hi, most)
	if got := table.Scan(lo, hi, most); !plainSame(got, want) {
		t.Fatalf("Scan(%q, %q, %d): %d items (%v); want %d (%v)", lo, hi, most, len(got), few(got), len(want), few(want))
	}
}

// checkTable asks for everything of a table of few items.
func checkTable(t *testing.T, table *Table, l []api.Item) {
	t.Helper()
	checkWhole(t, table, l)
	keys := []string{"", "\x00", "k", "\xff", strings.Repeat("\xff", mostKey), strings.Repeat("x", mostKey+1)}
	for _, x := range l {
		keys = append(keys, x.Key, x.Key+"\x00", x.Key[:len(x.Key)-1])
	}
	for i, key := range keys {
		checkFind(t, table, l, key)
		other := keys[i*7%len(keys)]
		for _, most := range []int{-1, 0, 1, 2, len(l), len(l) + 1} {
			checkScan(t, table, l, key, other, most)
			checkScan(t, table, l, key, "", most)
			checkScan(t, table, l, "", key, most)
		}
	}
}

// checkOpens asks for a table of these parts, and what is in it.
func checkOpens(t *testing.T, list ...[]api.Item) {
	t.Helper()
	if !plainIsTable(list) {
		t.Fatalf("the words say that there is no table of %v", few(list))
	}
	checkTable(t, mustOpen(t, plainBytes(list...)), slices.Concat(list...))
}

// checkNone asks Open of bytes that are no table's.
func checkNone(t *testing.T, b []byte) {
	t.Helper()
	if _, ok := plainOpen(b); ok {
		t.Fatalf("the words say that %d bytes (%v) are a table's", len(b), few(b))
	}
	if table, err := Open(b); table != nil || err != api.ErrText {
		t.Fatalf("Open of %d bytes (%v): %v, %d; want nothing, ErrText", len(b), few(b), table != nil, err)
	}
}

// checkAsTheWordsSay asks Open of any bytes; it tells whether they are a table's.
func checkAsTheWordsSay(t *testing.T, b []byte) bool {
	t.Helper()
	list, ok := plainOpen(b)
	if !ok {
		checkNone(t, b)
		return false
	}
	checkWhole(t, mustOpen(t, b), slices.Concat(list...))
	return true
}

func checkMade(t *testing.T, l []api.Item, size int) []byte {
	t.Helper()
	if !plainMayMake(l, size) {
		t.Fatalf("the words say that there is no table of %d items (%v), by the size %d", len(l), few(l), size)
	}
	b, err := Make(l, size)
	if want := plainBytes(plainParts(l, size)...); err != api.OK || !bytes.Equal(b, want) {
		t.Fatalf("Make of %d items, %d: %v, %d; want %v", len(l), size, few(b), err, few(want))
	}
	checkWhole(t, mustOpen(t, b), l)
	return b
}

func checkRefused(t *testing.T, l []api.Item, size int) {
	t.Helper()
	if plainMayMake(l, size) {
		t.Fatalf("the words say that there is a table of %d items (%v), by the size %d", len(l), few(l), size)
	}
	if b, err := Make(l, size); b != nil || err != api.ErrArg {
		t.Fatalf("Make of %d items (%v), %d: %v, %d; want nothing, ErrArg", len(l), few(l), size, few(b), err)
	}
}

// The chapter's example: of one item there are four frames.
func TestExample(t *testing.T) {
	b, err := Make([]api.Item{near("k")}, 512)
	want := framesBytes(
		api.Frame{Kind: 1, Body: []byte{1, 0, 1, 'k', 0, 0, 0}},
		api.Frame{Kind: 2, Body: []byte{1, 'k', 2}},
		api.Frame{Kind: 3, Body: plainSieve([]api.Item{near("k")})},
		api.Frame{Kind: 4, Body: []byte{1}},
	)
	if err != api.OK || !bytes.Equal(b, want) {
		t.Fatalf("Make: %v, %d; want %v", b, err, want)
	}
	checkTable(t, mustOpen(t, b), []api.Item{near("k")})
}

// Tb1: bytes that are known: three items in two parts, the second one's body behind 18 bytes and its own head.
func TestMakeKnown(t *testing.T) {
	l := []api.Item{near("ab", 7), dead("ac"), far("b", api.Point{Seg: 1, At: 2, Len: 3, Sum: 4})}
	b, err := Make(l, 37)
	want := framesBytes(
		api.Frame{Kind: 1, Body: []byte{2, 0, 2, 'a', 'b', 0, 0, 1, 7, 1, 1, 'c', 1}},
		api.Frame{Kind: 1, Body: []byte{1, 0, 1, 'b', 0, 1, 1, 2, 3, 4, 0, 0, 0}},
		api.Frame{Kind: 2, Body: []byte{2, 'a', 'b', 2, 1, 'b', 21}},
		api.Frame{Kind: 3, Body: plainSieve(l)},
		api.Frame{Kind: 4, Body: []byte{3}},
	)
	if err != api.OK || !bytes.Equal(b, want) {
		t.Fatalf("Make: %v, %d; want %v", b, err, want)
	}
	checkTable(t, mustOpen(t, b), l)
}

// Tb1: all bytes of a small table, also its sums and its sieve, as they are known.
func TestMakeKnownBytes(t *testing.T) {
	b, err := Make([]api.Item{dead("ab"), near("ac", 7, 8)}, 512)
	want := []byte{
		14, 1, 2, 0, 2, 'a', 'b', 1, 1, 1, 'c', 0, 0, 2, 7, 8, 199, 9, 205, 196,
		4, 2, 2, 'a', 'b', 2, 64, 6, 181, 79,
		3, 3, 109, 144, 75, 109, 12, 94, 19,
		1, 4, 2, 249, 102, 208, 94,
	}
	if err != api.OK || !bytes.Equal(b, want) {
		t.Fatalf("Make: %v, %d; want %v", b, err, want)
	}
}

// Tb1, R5: how many items there are: none, and no list; 1 to 16384; more.
func TestMakeByLength(t *testing.T) {
	for _, size := range []int{1, 512, mostSize} {
		checkRefused(t, nil, size)
		checkRefused(t, []api.Item{}, size)
		checkRefused(t, make([]api.Item, 0, 9), size)
		for _, n := range []int{1, 2, 3, 63, 64, 65, 127, 128, 129, 200, 256, 257, 1000, mostItems - 1, mostItems} {
			checkMade(t, row(n), size)
		}
		for _, n := range []int{mostItems + 1, mostItems + 2, 2 * mostItems, 65536, 65537} {
			checkRefused(t, row(n), size)
		}
	}
}

// Tb1: sizes that may be, and that may not.
func TestMakeBySize(t *testing.T) {
	for _, size := range []int{0, -1, -2, -512, math.MinInt, math.MinInt32, mostSize + 1, mostSize + 2, 1 << 17, 1 << 31, 1 << 32, 1<<32 + 1, 1<<32 + 512, math.MaxInt} {
		checkRefused(t, row(1), size)
		checkRefused(t, row(100), size)
		checkRefused(t, nil, size)
	}
	for _, size := range []int{1, 2, 10, 23, 24, 25, 100, 512, 1000, 4096, mostSize - 1, mostSize} {
		checkMade(t, row(1), size)
		checkMade(t, row(100), size)
	}
}

func partLengths(t *testing.T, b []byte) []int {
	t.Helper()
	var n []int
	for _, l := range mustOpen(t, b).list {
		n = append(n, len(l))
	}
	return n
}

func checkParted(t *testing.T, l []api.Item, size int, want ...int) {
	t.Helper()
	if n := partLengths(t, checkMade(t, l, size)); !slices.Equal(n, want) {
		t.Fatalf("%d items, parted by %d: parts of %v; want %v", len(l), size, n, want)
	}
}

// Tb1: a part ends by its weight, just at the size: a byte of any key or Cell less, and it goes on.
func TestPartByWeight(t *testing.T) {
	// Each weighs 1 + 16 + 3.
	l := []api.Item{near("a", 1, 2, 3), near("b", 1, 2, 3), near("c", 1, 2, 3), near("d", 1, 2, 3), near("e", 1, 2, 3)}
	checkParted(t, l, 1, 1, 1, 1, 1, 1)
	checkParted(t, l, 19, 1, 1, 1, 1, 1)
	checkParted(t, l, 20, 1, 1, 1, 1, 1)
	checkParted(t, l, 21, 2, 2, 1)
	checkParted(t, l, 39, 2, 2, 1)
	checkParted(t, l, 40, 2, 2, 1)
	checkParted(t, l, 41, 3, 2)
	checkParted(t, l, 60, 3, 2)
	checkParted(t, l, 61, 4, 1)
	checkParted(t, l, 80, 4, 1)
	checkParted(t, l, 81, 5)
	checkParted(t, l, 100, 5)
	checkParted(t, l, 101, 5)
	checkParted(t, l, mostSize, 5)
	// Neither a point nor that an item is Dead weighs anything; what is alike with the key ahead does.
	unlike := []api.Item{dead("k"), far("kk", api.Point{Seg: mostCount, At: mostCount, Len: mostValue, Sum: math.MaxUint32}), near("kkk", 1), dead("l")}
	checkParted(t, unlike, 17, 1, 1, 1, 1)
	checkParted(t, unlike, 18, 2, 1, 1)
	checkParted(t, unlike, 35, 2, 2)
	checkParted(t, unlike, 36, 3, 1)
	checkParted(t, unlike, 55, 3, 1)
	checkParted(t, unlike, 56, 4)
	checkParted(t, unlike, 72, 4)
	checkParted(t, unlike, 73, 4)
	for n := 1; n <= mostKey; n++ {
		key := strings.Repeat("k", n)
		checkParted(t, []api.Item{dead(key), dead("z")}, n+16, 1, 1)
		checkParted(t, []api.Item{dead(key), dead("z")}, n+17, 2)
	}
	for n := 0; n <= mostPlain; n++ {
		x := near("k", make([]byte, n)...)
		checkParted(t, []api.Item{x, dead("z")}, n+17, 1, 1)
		checkParted(t, []api.Item{x, dead("z")}, n+18, 2)
	}
}

// Tb1: a part ends by having 64 items, whatever is left of the size; and by the last item, also where that is the 64th.
func TestPartByNumber(t *testing.T) {
	for _, size := range []int{64 * 26, 64*26 + 1, 5000, mostSize} {
		checkParted(t, row(63), size, 63)
		checkParted(t, row(64), size, 64)
		checkParted(t, row(65), size, 64, 1)
		checkParted(t, row(127), size, 64, 63)
		checkParted(t, row(128), size, 64, 64)
		checkParted(t, row(129), size, 64, 64, 1)
		checkParted(t, row(256), size, 64, 64, 64, 64)
	}
	// All of one weight, 24: by the weight with the 63rd, with the 64th, and behind it.
	l := row(130)
	for i := range l {
		l[i] = dead(l[i].Key)
	}
	checkParted(t, l, 63*24, 63, 63, 4)
	checkParted(t, l, 63*24+1, 64, 64, 2)
	checkParted(t, l, 64*24, 64, 64, 2)
	checkParted(t, l, 64*24+1, 64, 64, 2)
	checkParted(t, l, 65*24, 64, 64, 2)
	// What a part weighed is not counted for the next one.
	checkParted(t, l[:10], 3*24-1, 3, 3, 3, 1)
	checkParted(t, l[:9], 3*24, 3, 3, 3)
}

// Tb1: what an item weighs is what layer 10 says of it.
func TestWeighAsTheTree(t *testing.T) {
	r := newSource()
	for range 2000 {
		one := tree.New()
		x := someItem(r)
		one.Put(x)
		if weigh(x) != one.Weight() {
			t.Fatalf("%v weighs %d, in a tree %d", x, weigh(x), one.Weight())
		}
	}
}

// Tb1: items not in order, and a key twice, at each place, also where two parts meet.
func TestMakeByOrder(t *testing.T) {
	for _, size := range []int{1, 50, mostSize} {
		for _, n := range []int{2, 3, 10, 130} {
			for i := 1; i < n; i++ {
				swapped := row(n)
				swapped[i-1], swapped[i] = swapped[i], swapped[i-1]
				checkRefused(t, swapped, size)
				twice := row(n)
				twice[i].Key = twice[i-1].Key
				checkRefused(t, twice, size)
				first := row(n)
				first[i].Key = first[0].Key
				checkRefused(t, first, size)
			}
			falling := row(n)
			slices.Reverse(falling)
			checkRefused(t, falling, size)
		}
		for _, keys := range [][]string{{"b", "a"}, {"ab", "a"}, {"a\x00", "a"}, {"\x80", "\x7f"}, {"\xff", "\x00"}, {"é", "z"}, {"a", "B"}, {"10", "1"}} {
			checkRefused(t, []api.Item{dead(keys[0]), near(keys[1])}, size)
			checkMade(t, []api.Item{dead(keys[1]), near(keys[0])}, size)
		}
		for _, l := range [][]api.Item{{dead("k"), dead("k")}, {near("k"), dead("k")}, {near("k"), near("k", 7)}} {
			checkRefused(t, l, size)
		}
	}
	for _, i := range []int{0, 1, 64, 8000, mostItems - 2, mostItems - 1} {
		l := row(mostItems)
		l[i].Key = l[(i+1)%mostItems].Key
		checkRefused(t, l, 512)
	}
}

// Tb1: keys of every length, of any bytes.
func TestMakeOfKeys(t *testing.T) {
	for n := range 300 {
		for _, s := range []string{"\x00", "k", "\x80", "\xff"} {
			key := strings.Repeat(s, n)
			for _, l := range [][]api.Item{{near(key, 7)}, {dead(key)}, {far(key, api.Point{Seg: 1})}} {
				if n >= 1 && n <= mostKey {
					checkMade(t, l, 512)
				} else {
					checkRefused(t, l, 512)
				}
			}
		}
	}
	for _, key := range []string{"", strings.Repeat("a", mostKey+1), strings.Repeat("b", 1000)} {
		checkRefused(t, []api.Item{dead("a"), dead(key)}, 1)
		checkRefused(t, []api.Item{dead(key), dead("z")}, 1)
	}
}

// rightCells may be; the first two are nought.
func rightCells() []api.Cell {
	return []api.Cell{
		{},
		{Bytes: []byte{}},
		{Bytes: []byte{0}},
		{Bytes: []byte{1, 2, 3}},
		{Bytes: make([]byte, mostPlain)},
		{Bytes: bytes.Repeat([]byte{255}, mostPlain)},
		{Far: true, Point: api.Point{Seg: 1}},
		{Far: true, Bytes: []byte{}, Point: api.Point{Seg: 1, At: 2, Len: 3, Sum: 4}},
		{Far: true, Point: api.Point{Seg: mostCount, At: mostCount, Len: mostValue, Sum: math.MaxUint32}},
	}
}

func wrongCells() []api.Cell {
	l := []api.Cell{
		{Bytes: make([]byte, mostPlain+1)},
		{Bytes: make([]byte, mostValue)},
		{Point: api.Point{Seg: 1}},
		{Point: api.Point{At: 1}},
		{Point: api.Point{Len: 1}},
		{Point: api.Point{Sum: 1}},
		{Far: true},
		{Far: true, Bytes: []byte{7}},
		{Far: true, Bytes: []byte{7}, Point: api.Point{Seg: 1}},
		{Far: true, Point: api.Point{Seg: 1, Len: mostValue + 1}},
	}
	for _, n := range []int{-1, mostCount + 1, 1 << 32, 1<<32 + 1, math.MaxInt, math.MinInt} {
		for _, p := range []api.Point{{Seg: n}, {Seg: 1, At: n}, {Seg: 1, Len: n}} {
			l = append(l, api.Cell{Far: true, Point: p})
		}
	}
	return l
}

// Tb1: Cells that may be and that may not; of a Dead item only nought; alone, and between others, in one part or in several.
func TestMakeOfCells(t *testing.T) {
	lists := func(x api.Item) [][]api.Item {
		return [][]api.Item{{x}, {near("a", 1), x, dead("z")}, {near("a", 1), x}, {x, dead("z")}}
	}
	for _, size := range []int{1, 512} {
		for i, c := range rightCells() {
			for _, l := range lists(api.Item{Key: "k", Cell: c}) {
				checkMade(t, l, size)
			}
			for _, l := range lists(api.Item{Key: "k", Dead: true, Cell: c}) {
				if i < 2 {
					checkMade(t, l, size)
				} else {
					checkRefused(t, l, size)
				}
			}
		}
		for _, c := range wrongCells() {
			for _, isDead := range []bool{false, true} {
				for _, l := range lists(api.Item{Key: "k", Dead: isDead, Cell: c}) {
					checkRefused(t, l, size)
				}
			}
		}
	}
}

// longRow is as many items as there may be, with keys of 60 bytes: parted by 1, the index has nearly as many bytes as a frame may hold. The last ones have one byte more.
func longRow(longer int) []api.Item {
	l := make([]api.Item, mostItems)
	for i := range l {
		l[i] = dead(numbered(i) + strings.Repeat("k", 52))
	}
	for i := range longer {
		l[len(l)-1-i].Key += "k"
	}
	return l
}

// Tb1: an index of as many bytes as a frame may hold, and of one more, which no frame has; parted by more, it is shorter.
func TestMakeOfGreatIndex(t *testing.T) {
	frames := plainFrames(plainParts(longRow(0), 1)...)
	longer := mostBody - len(frames[mostItems].Body)
	if longer < 1 || longer > 8000 {
		t.Fatalf("the index has %d bytes less than there may be", longer)
	}
	checkMade(t, longRow(longer-1), 1)
	checkMade(t, longRow(longer), 1)
	checkRefused(t, longRow(longer+1), 1)
	checkRefused(t, longRow(longer+1), 76)
	checkRefused(t, longRow(mostItems), 77)
	checkMade(t, longRow(mostItems), 78)
	checkMade(t, longRow(longer+1), 512)
	checkNone(t, plainBytes(plainParts(longRow(longer+1), 1)...))
}

// Tb1: Make as the words say, of items in order, and of such as are turned in one thing.
func TestMakeAsTheWordsSay(t *testing.T) {
	r := newSource()
	good, bad := 0, 0
	for range 2000 {
		l := someItems(r, 1+r.Intn(200)>>r.Intn(8))
		size := 1 + r.Intn(mostSize)>>r.Intn(17)
		checkMade(t, l, size)
		x := &l[r.Intn(len(l))]
		switch r.Intn(7) {
		case 0:
			x.Key = string(someBytes(r, r.Intn(70)))
		case 1:
			x.Key += "\x00"
		case 2:
			x.Key = x.Key[:len(x.Key)-1]
		case 3:
			x.Dead = !x.Dead
		case 4:
			x.Cell = someCell(r)
		case 5:
			l = append(l, someItem(r))
		case 6:
			size = r.Intn(3*mostSize) - mostSize
		}
		if plainMayMake(l, size) {
			good++
			checkMade(t, l, size)
		} else {
			bad++
			checkRefused(t, l, size)
		}
	}
	if good < 200 || bad < 200 {
		t.Errorf("only %d were tables, and %d were none", good, bad)
	}
}

// Tb3: what is made is opened, whatever the size, and the same is read of every size; each key that is there may be.
func TestMadeIsOpened(t *testing.T) {
	r := newSource()
	for _, l := range [][]api.Item{row(1), row(9), row(64), row(70), someItems(r, 20), someItems(r, 50)} {
		for size := 1; size <= 300; size++ {
			checkTable(t, mustOpen(t, checkMade(t, l, size)), l)
			if len(l) > 9 {
				size += r.Intn(30)
			}
		}
	}
	for range 50 {
		l := someItems(r, 1+r.Intn(300))
		for _, size := range []int{1, 40, 512, 4000, mostSize} {
			table := mustOpen(t, checkMade(t, l, size))
			for _, x := range l {
				if y, found := table.Find(x.Key); !found || !plainSameItem(x, y) || !table.May(x.Key) {
					t.Fatalf("%v is found as %v, %v", x, y, found)
				}
			}
		}
	}
}

// Tb3: as many items as there may be, each of them found.
func TestMadeIsOpenedMany(t *testing.T) {
	l := row(mostItems)
	for _, size := range []int{1, 512, mostSize} {
		table := mustOpen(t, checkMade(t, l, size))
		for i, x := range l {
			if y, found := table.Find(x.Key); !found || !plainSameItem(x, y) || !table.May(x.Key) {
				t.Fatalf("%v is found as %v, %v", x, y, found)
			}
			if y, found := table.Find(numbered(2 * i)); found || !isZero(y) {
				t.Fatalf("%q is found as %v", numbered(2*i), y)
			}
		}
		for _, at := range []int{0, 1, 63, 64, 5000, mostItems - 1} {
			for _, n := range []int{1, 2, 64, 65, 1000, mostItems} {
				end := min(at+n, mostItems)
				if got := table.Scan(l[at].Key, "", n); !plainSame(got, l[at:end]) {
					t.Fatalf("Scan from %d on, %d: %d items", at, n, len(got))
				}
				if got := table.Scan(numbered(2*at), numbered(2*end), math.MaxInt); !plainSame(got, l[at:end]) {
					t.Fatalf("Scan from %d on below %d: %d items", at, end, len(got))
				}
			}
		}
	}
}
