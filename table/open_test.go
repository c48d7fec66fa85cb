package table

import (
	"bytes"
	"encoding/binary"
	"math"
	"math/rand"
	"slices"
	"strings"
	"testing"

	"garner/api"
)

// someTables are parted in many ways, few and many.
func someTables(r *rand.Rand) [][][]api.Item {
	list := [][][]api.Item{
		{{near("k")}},
		{{dead("k")}},
		{{far("k", api.Point{Seg: 300, At: 301, Len: 302, Sum: 0x01020304})}},
		{{near("a", 7)}, {dead("ab")}, {near("b")}},
		{{near("a", 7), dead("ab")}, {near("b"), near("c", 1), dead("d")}},
		{row(30)},
		{row(30)[:9], row(30)[9:10], row(30)[10:]},
	}
	for range 12 {
		list = append(list, someParts(r, 1+r.Intn(12), 1+r.Intn(6)))
	}
	return list
}

// Tb1, R5: no bytes, no list, and bytes that end within a table's, wherever that is.
func TestOpenOfBeginnings(t *testing.T) {
	checkNone(t, nil)
	checkNone(t, []byte{})
	checkNone(t, make([]byte, 0, 9))
	for _, list := range someTables(newSource()) {
		checkOpens(t, list...)
		b := plainBytes(list...)
		for end := range b {
			checkNone(t, b[:end])
			checkNone(t, slices.Clip(slices.Clone(b[:end])))
		}
	}
}

// Tb1: bytes that a table's end with, wherever they begin.
func TestOpenOfEnds(t *testing.T) {
	for _, list := range someTables(newSource()) {
		b := plainBytes(list...)
		for from := 1; from <= len(b); from++ {
			checkNone(t, b[from:])
		}
	}
}

// Tb1: bytes behind a table's, and ahead of them, also such as are frames, or a table.
func TestOpenOfMoreBytes(t *testing.T) {
	r := newSource()
	for _, list := range someTables(r) {
		b := plainBytes(list...)
		frames := plainFrames(list...)
		for _, more := range [][]byte{
			{0}, {1}, {4}, {128}, {255}, {0, 0}, {1, 1}, someBytes(r, 1+r.Intn(40)), make([]byte, 5000), b,
			frameBytes(frames[0]), frameBytes(frames[len(frames)-1]), frameBytes(api.Frame{Kind: 5}), frameBytes(api.Frame{Kind: 4}),
		} {
			checkNone(t, slices.Concat(b, more))
			checkNone(t, slices.Concat(more, b))
		}
	}
}

// Tb1: each byte of a table turned, to any other.
func TestOpenOfTurnedBytes(t *testing.T) {
	for _, list := range someTables(newSource())[:7] {
		b := plainBytes(list...)
		for at := range b {
			for bit := range 8 {
				b[at] ^= 1 << bit
				checkNone(t, b)
				b[at] ^= 1 << bit
			}
		}
	}
	b := plainBytes([]api.Item{near("a", 7)}, []api.Item{dead("ab")})
	for at := range b {
		for x := 1; x < 256; x++ {
			b[at] ^= byte(x)
			checkNone(t, b)
			b[at] ^= byte(x)
		}
	}
}

// Tb1: each byte of a frame's Body turned, left out, or one more put ahead of it, the sum being right. (Where only a Cell's bytes are turned it is another table.)
func TestOpenOfTurnedBodies(t *testing.T) {
	tables, others := 0, 0
	check := func(frames []api.Frame) {
		if checkAsTheWordsSay(t, framesBytes(frames...)) {
			tables++
		} else {
			others++
		}
	}
	for _, list := range someTables(newSource()) {
		frames := plainFrames(list...)
		for i, f := range frames {
			with := func(body []byte) []api.Frame {
				turned := slices.Clone(frames)
				turned[i].Body = body
				return turned
			}
			for at := range f.Body {
				for bit := range 8 {
					body := slices.Clone(f.Body)
					body[at] ^= 1 << bit
					check(with(body))
				}
				check(with(slices.Concat(f.Body[:at], f.Body[at+1:])))
				check(with(slices.Concat(f.Body[:at], f.Body[at:at+1], f.Body[at:])))
				check(with(slices.Concat(f.Body[:at], []byte{0}, f.Body[at:])))
			}
			check(with(append(slices.Clone(f.Body), 0)))
			check(with(nil))
		}
	}
	if tables < 100 || others < 1000 {
		t.Errorf("only %d were tables, and %d were none", tables, others)
	}
}

// Tb1: frames of other Kinds, each of them, whatever it is.
func TestOpenOfOtherKinds(t *testing.T) {
	list := [][]api.Item{row(5)[:2], row(5)[2:]}
	frames := plainFrames(list...)
	for i, f := range frames {
		for kind := range 256 {
			if kind == f.Kind {
				continue
			}
			turned := slices.Clone(frames)
			turned[i].Kind = kind
			checkNone(t, framesBytes(turned...))
		}
	}
	for _, more := range []int{-1, 1, 2, 3} {
		turned := slices.Clone(frames)
		for i := range turned {
			turned[i].Kind += more
		}
		checkNone(t, framesBytes(turned...))
	}
}

// orders are all orders in which as many can be.
func orders(n int) [][]int {
	if n == 0 {
		return [][]int{nil}
	}
	var l [][]int
	for _, fewer := range orders(n - 1) {
		for at := range n {
			l = append(l, slices.Insert(slices.Clone(fewer), at, n-1))
		}
	}
	return l
}

// Tb1: frames in every other order; any left out, any twice, anywhere; a table within a table.
func TestOpenOfOtherFrames(t *testing.T) {
	list := [][]api.Item{row(6)[:2], row(6)[2:3], row(6)[3:]}
	frames := plainFrames(list...)
	found := 0
	for _, order := range orders(len(frames)) {
		var turned []api.Frame
		for _, i := range order {
			turned = append(turned, frames[i])
		}
		if checkAsTheWordsSay(t, framesBytes(turned...)) {
			found++
		}
	}
	if found != 1 {
		t.Errorf("%d orders are tables", found)
	}
	for set := range 1<<len(frames) - 1 {
		var some []api.Frame
		for i, f := range frames {
			if set>>i%2 == 1 {
				some = append(some, f)
			}
		}
		checkNone(t, framesBytes(some...))
	}
	for _, f := range append(frames, api.Frame{Kind: 1}, api.Frame{Kind: 2}, api.Frame{Kind: 3}, api.Frame{Kind: 4}, api.Frame{Kind: 5}, api.Frame{Kind: 250}) {
		for at := range len(frames) + 1 {
			checkNone(t, framesBytes(slices.Insert(slices.Clone(frames), at, f)...))
		}
	}
	for at := range len(frames) + 1 {
		checkNone(t, framesBytes(slices.Insert(slices.Clone(frames), at, frames...)...))
	}
}

// Tb1: no part at all, with whatever stands behind; a part without items.
func TestOpenOfNoPart(t *testing.T) {
	checkNone(t, plainBytes())
	checkNone(t, framesBytes(api.Frame{Kind: 2}, api.Frame{Kind: 3, Body: []byte{0}}, api.Frame{Kind: 4, Body: []byte{0}}))
	checkNone(t, framesBytes(api.Frame{Kind: 2}, api.Frame{Kind: 3}, api.Frame{Kind: 4}))
	checkNone(t, framesBytes(plainFrames(row(2))[1:]...))
	checkNone(t, plainBytes(nil))
	checkNone(t, plainBytes(nil, row(2)))
	checkNone(t, plainBytes(row(2), nil))
	checkNone(t, plainBytes(row(2)[:1], nil, row(2)[1:]))
	// Frames of no bytes where the part would be.
	frames := plainFrames(row(1))
	frames[0].Body = nil
	checkNone(t, framesBytes(frames...))
}

// withPart is a table whose part has another Body, and whose index tells the place that it has.
func withPart(list [][]api.Item, i int, body []byte) []byte {
	frames := plainFrames(list...)
	frames[i].Body = body
	var index []byte
	at := 0
	for k, l := range list {
		b := frameBytes(frames[k])
		index = append(index, indexRow(l[0].Key, at+len(b)-4-len(frames[k].Body))...)
		at += len(b)
	}
	frames[len(list)].Body = index
	return framesBytes(frames...)
}

// Tb1: a part that is no block, all else being right: bytes behind it, too few, a wrong Cell, items not in order, a key's bytes alike told as others.
func TestOpenOfNoBlock(t *testing.T) {
	list := [][]api.Item{{dead("a"), near("ab", 7)}, {near("b", 1), dead("c")}}
	right, tooLong := blockBytes(list[0]), make([]byte, mostPlain+1)
	if b := withPart(list, 0, right); !bytes.Equal(b, plainBytes(list...)) || !checkAsTheWordsSay(t, b) {
		t.Fatal("the part itself is refused")
	}
	for _, body := range [][]byte{
		nil, {0}, {1}, {2}, right[1:], right[:len(right)-1], append(slices.Clone(right), 0), slices.Concat(right, right),
		{2, 0, 1, 'a', 1, 0, 2, 'a', 'b', 0, 0, 1, 7},             // none alike, though one is
		{2, 0, 1, 'a', 1, 2, 0, 0, 0, 1, 7},                       // more alike than there are
		{2, 0, 1, 'a', 2, 1, 1, 'b', 0, 0, 1, 7},                  // neither Dead nor not
		{2, 0, 1, 'a', 1, 1, 1, 'b', 0, 2, 1, 7},                  // a Cell of no kind
		{2, 0, 1, 'a', 1, 1, 1, 'b', 0, 1, 0, 0, 0, 0, 0, 0, 0},   // a point of no segment
		{130, 0, 0, 1, 'a', 1, 1, 1, 'b', 0, 0, 1, 7},             // a number of more bytes than it needs
		{3, 0, 1, 'a', 1, 1, 1, 'b', 0, 0, 1, 7},                  // more items told than there are
		blockBytes([]api.Item{near("ab", 7), dead("a")}),          // not in order
		blockBytes([]api.Item{dead("a"), dead("a")}),              // a key twice
		blockBytes([]api.Item{dead("a"), near("ab", tooLong...)}), // a value that is too long
		blockBytes([]api.Item{{Key: ""}, near("ab", 7)}),          // no key
	} {
		checkNone(t, withPart(list, 0, body))
	}
	right = blockBytes(list[1])
	for _, body := range [][]byte{nil, right[:len(right)-1], append(slices.Clone(right), 0), blockBytes([]api.Item{dead("c"), near("b", 1)})} {
		checkNone(t, withPart(list, 1, body))
	}
}

// Tb1: parts that are not in order together, each being a block, with an index, a sieve and a count of just these.
func TestOpenOfPartsNotInOrder(t *testing.T) {
	l := row(8)
	checkOpens(t, l[:3], l[3:5], l[5:])
	for _, list := range [][][]api.Item{
		{l[3:5], l[:3], l[5:]},
		{l[:3], l[5:], l[3:5]},
		{l[5:], l[3:5], l[:3]},
		{l[:3], l[2:5], l[5:]}, // the last key of a part is the next one's first
		{l[:3], l[1:5], l[5:]},
		{l[:5], l[3:5], l[5:]}, // the next one stands within
		{l[:3], l[:3]},         // a part twice
		{l[:3], l[3:5], l[:3]},
		{l[:1], l[:1]},
		{l[:1], l[1:2], l[1:2]},
		{l[1:2], l[:1]},
		{{l[0], l[4]}, {l[2], l[5]}}, // one part's keys among the other's
		{{l[0], l[4]}, {l[4], l[5]}},
		{{l[0], l[4]}, {l[1], l[2]}},
		{{dead("b")}, {dead("a")}},
		{{dead("ab")}, {dead("a")}},
		{{dead("\x80")}, {dead("\x7f")}},
		{{dead("a")}, {near("a", 7)}},
	} {
		checkNone(t, plainBytes(list...))
	}
}

// withIndex is a table with another index.
func withIndex(list [][]api.Item, body []byte) []byte {
	frames := plainFrames(list...)
	frames[len(list)].Body = body
	return framesBytes(frames...)
}

// Tb1: another index than the parts have: rows too many, too few, in another order, other keys, other places, numbers of more bytes than they need.
func TestOpenOfOtherIndexes(t *testing.T) {
	list := [][]api.Item{{near("a", 7), dead("ab")}, {near("b"), near("c", 1), dead("d")}, {near("e")}}
	// Each body stands two bytes behind the beginning of its frame, and four ahead of the end.
	var places []int
	at := 0
	for _, l := range list {
		body := blockBytes(l)
		places = append(places, at+2)
		at += len(body) + 6
	}
	rows := [][]byte{indexRow("a", places[0]), indexRow("b", places[1]), indexRow("e", places[2])}
	right := slices.Concat(rows...)
	if b := withIndex(list, right); !bytes.Equal(b, plainBytes(list...)) {
		t.Fatal("the index is another one")
	}
	checkOpens(t, list...)
	wrong := [][]byte{
		nil, rows[0], rows[1], right[len(rows[0]):], right[:len(right)-1], right[1:],
		append(slices.Clone(right), 0), slices.Concat(right, rows[2]), slices.Concat(right, right), slices.Concat(rows[0], right),
		slices.Concat(rows[1], rows[0], rows[2]), slices.Concat(rows[0], rows[0], rows[2]), slices.Concat(rows[0], rows[2]),
		slices.Concat([]byte{129, 0, 'a', 2}, rows[1], rows[2]),
		slices.Concat([]byte{1, 'a', 130, 0}, rows[1], rows[2]),
		slices.Concat([]byte{0, 2}, rows[1], rows[2]),
		slices.Concat([]byte{3}, right),
	}
	for _, key := range []string{"", "a", "b\x00", "c", "d", "bb", "B", strings.Repeat("b", mostKey+1)} {
		wrong = append(wrong, slices.Concat(rows[0], indexRow(key, places[1]), rows[2]))
	}
	for place := range 2 * at {
		if place != places[1] {
			wrong = append(wrong, slices.Concat(rows[0], indexRow("b", place), rows[2]))
		}
	}
	for _, great := range []uint64{1 << 31, 1<<32 + 21, 1 << 63, 1<<64 - 1} {
		wrong = append(wrong, slices.Concat(rows[0], []byte{1, 'b'}, number(great+uint64(places[1])), rows[2]))
	}
	for _, body := range wrong {
		checkNone(t, withIndex(list, body))
	}
}

// Tb1: another sieve than that of all keys: a bit more, a bit less, of fewer or of other keys, longer, shorter, none.
func TestOpenOfOtherSieves(t *testing.T) {
	l := row(12)
	list := [][]api.Item{l[:5], l[5:]}
	frames := plainFrames(list...)
	right := plainSieve(l)
	checkOpens(t, list...)
	with := func(body []byte) []byte {
		frames[3].Body = body
		return framesBytes(frames...)
	}
	if !bytes.Equal(with(right), plainBytes(list...)) {
		t.Fatal("the sieve is another one")
	}
	for bit := range 8 * len(right) {
		body := slices.Clone(right)
		body[bit/8] ^= 1 << (bit % 8)
		checkNone(t, with(body))
	}
	for _, body := range [][]byte{
		nil, {0}, right[1:], right[:len(right)-1], append(slices.Clone(right), 0), append([]byte{0}, right...), slices.Concat(right, right),
		make([]byte, len(right)), bytes.Repeat([]byte{255}, len(right)), bytes.Repeat([]byte{255}, mostBody),
		plainSieve(l[:11]), plainSieve(l[1:]), plainSieve(row(13)), plainSieve(someItems(newSource(), 12)),
	} {
		checkNone(t, with(body))
	}
}

// Tb1: another count than there are items, in as few bytes as hold it or in more.
func TestOpenOfOtherCounts(t *testing.T) {
	for _, n := range []int{1, 2, 5, 127, 128, 300} {
		list := plainParts(row(n), 200)
		frames := plainFrames(list...)
		last := len(frames) - 1
		with := func(body []byte) []byte {
			frames[last].Body = body
			return framesBytes(frames...)
		}
		if !bytes.Equal(with(number(uint64(n))), plainBytes(list...)) {
			t.Fatal("the count is another one")
		}
		checkAsTheWordsSay(t, with(number(uint64(n))))
		for _, other := range []uint64{0, uint64(n) - 1, uint64(n) + 1, uint64(len(list)), 1 << 20, 1<<32 + uint64(n), 1<<63 + uint64(n), math.MaxUint64} {
			if other != uint64(n) {
				checkNone(t, with(number(other)))
			}
		}
		longer := number(uint64(n))
		longer[len(longer)-1] |= 128
		right := number(uint64(n))
		for _, body := range [][]byte{
			nil, append(longer, 0), append(slices.Clone(right), 0), slices.Concat(right, right), {255}, bytes.Repeat([]byte{255}, 30),
			binary.LittleEndian.AppendUint32(nil, uint32(n)),
		} {
			checkNone(t, with(body))
		}
	}
}

// Tb1: parts however great: of 1 to 256 items each, not only such as Make makes; none of more.
func TestOpenByPart(t *testing.T) {
	for n := 1; n <= mostBlock; n++ {
		l := row(n)
		checkWhole(t, mustOpen(t, plainBytes(l)), l)
		more := row(n + 3)
		table := mustOpen(t, plainBytes(more[:1], more[1:n+1], more[n+1:]))
		checkWhole(t, table, more)
		for _, x := range more {
			checkFind(t, table, more, x.Key)
		}
	}
	for _, n := range []int{257, 258, 300, 512, 1000} {
		l := row(n + 2)
		checkNone(t, plainBytes(l[:n]))
		checkNone(t, plainBytes(l[:1], l[1:n+1]))
		checkNone(t, plainBytes(l[:n], l[n:]))
		checkNone(t, plainBytes(l[:1], l[1:n+1], l[n+1:]))
	}
}

// Tb1: a size that parts them otherwise is no less a table: of a part's first half alone, of both, of parts that weigh more than any size.
func TestOpenHoweverParted(t *testing.T) {
	l := row(7)
	for cuts := range 1 << 6 {
		var list [][]api.Item
		from := 0
		for i := range 6 {
			if cuts>>i%2 == 1 {
				list = append(list, l[from:i+1])
				from = i + 1
			}
		}
		checkOpens(t, append(list, l[from:])...)
	}
	heavy := make([]api.Item, mostBlock)
	for i := range heavy {
		heavy[i] = near(strings.Repeat("k", 56)+numbered(i), make([]byte, mostPlain)...)
	}
	checkAsTheWordsSay(t, plainBytes(heavy))
}

// Tb1: as many items as there may be, in the greatest parts and in the least, and one more.
func TestOpenByLength(t *testing.T) {
	for _, most := range []int{1, 2, 100, mostBlock} {
		for _, n := range []int{mostItems - 1, mostItems, mostItems + 1, mostItems + 300} {
			l := row(n)
			b := plainBytes(slices.Collect(slices.Chunk(l, most))...)
			if n > mostItems {
				checkNone(t, b)
				continue
			}
			checkWhole(t, mustOpen(t, b), l)
		}
	}
}

// Tb1: Open as the words say, of tables whose frames are spoilt in one way or several.
func TestOpenAsTheWordsSay(t *testing.T) {
	r := newSource()
	tables, others := 0, 0
	for range 20000 {
		frames := plainFrames(someParts(r, 1+r.Intn(9), 4)...)
		for range r.Intn(3) {
			frames = spoilt(r, frames)
		}
		b := framesBytes(frames...)
		if r.Intn(8) == 0 {
			b = b[:r.Intn(len(b)+1)]
		}
		if checkAsTheWordsSay(t, b) {
			tables++
		} else {
			others++
		}
	}
	if tables < 2000 || others < 2000 {
		t.Errorf("only %d tables, and %d others, came up", tables, others)
	}
}

// spoilt is frames with one of them turned, moved, left out, or twice.
func spoilt(r *rand.Rand, frames []api.Frame) []api.Frame {
	frames = slices.Clone(frames)
	if len(frames) == 0 {
		return frames
	}
	i, k := r.Intn(len(frames)), r.Intn(len(frames))
	switch r.Intn(6) {
	case 0:
		frames[i], frames[k] = frames[k], frames[i]
	case 1:
		return slices.Delete(frames, i, i+1)
	case 2:
		return slices.Insert(frames, i, frames[k])
	case 3:
		frames[i].Kind = r.Intn(6)
	case 4:
		frames[i].Body = frames[k].Body
	case 5:
		body := slices.Clone(frames[i].Body)
		if len(body) > 0 {
			body[r.Intn(len(body))] ^= 1 << r.Intn(8)
		}
		frames[i].Body = body
	}
	return frames
}

// P1: Open ends, and does not panic, at bytes of any kind, and so do the calls of what it gives.
func FuzzOpen(f *testing.F) {
	for _, list := range someTables(newSource()) {
		f.Add(plainBytes(list...), "k")
	}
	f.Add(plainBytes(plainParts(row(200), 100)...), numbered(7))
	f.Add([]byte{}, "")
	f.Fuzz(func(t *testing.T, b []byte, key string) {
		if !checkAsTheWordsSay(t, b) {
			return
		}
		list, _ := plainOpen(b)
		l := slices.Concat(list...)
		table := mustOpen(t, b)
		checkFind(t, table, l, key)
		checkScan(t, table, l, key, "", 3)
		checkScan(t, table, l, "", key, 3)
	})
}

// P1: Make ends, and does not panic, at items of any kind and every size.
func FuzzMake(f *testing.F) {
	f.Add("a", "b", false, true, []byte{7}, 0, 0, 0, 1)
	f.Add("", "", true, true, []byte{}, 1, 2, 3, 512)
	f.Add("ab", "ac", false, false, []byte(nil), 1, 0, 4096, 65536)
	f.Add("\xff", "\x00", false, false, make([]byte, 33), -1, 1<<31, 1<<62, -1)
	f.Fuzz(func(t *testing.T, a, b string, deadA, farB bool, value []byte, seg, at, length, size int) {
		l := []api.Item{{Key: a, Dead: deadA, Cell: api.Cell{Bytes: value}}, {Key: b, Cell: api.Cell{Far: farB, Point: api.Point{Seg: seg, At: at, Len: length}}}}
		for _, items := range [][]api.Item{l, l[:1], l[1:], {l[1], l[0]}, {{Key: a}, {Key: b, Dead: true}}} {
			for _, size := range []int{size, 1, 512} {
				if plainMayMake(items, size) {
					checkMade(t, items, size)
				} else {
					checkRefused(t, items, size)
				}
			}
		}
	})
}
