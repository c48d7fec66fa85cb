package entry

import (
	"bytes"
	"encoding/binary"
	"math"
	"math/rand"
	"reflect"
	"slices"
	"strings"
	"testing"

	"garner/api"
)

const (
	mostCount = 1<<31 - 1
	mostKey   = 64
	mostValue = 4096
	mostPlain = 32
	mostBatch = 16

	kindNone   = 0
	kindPut    = 1
	kindDelete = 2
)

func newSource() *rand.Rand { return rand.New(rand.NewSource(6)) }

// number goes by the library's numbers, and shares nothing with layer 2.
func number(u uint64) []byte { return binary.AppendUvarint(nil, u) }

func plainCellMayBe(c api.Cell) bool {
	p := c.Point
	if c.Far {
		return len(c.Bytes) == 0 && p.Seg >= 1 && p.Seg <= mostCount && p.At >= 0 && p.At <= mostCount && p.Len >= 0 && p.Len <= mostValue
	}
	return len(c.Bytes) <= mostPlain && p.Seg == 0 && p.At == 0 && p.Len == 0 && p.Sum == 0
}

func isNought(c api.Cell) bool {
	return !c.Far && len(c.Bytes) == 0 && c.Point.Seg == 0 && c.Point.At == 0 && c.Point.Len == 0 && c.Point.Sum == 0
}

// plainMayBe goes by the chapter's words.
func plainMayBe(e api.Entry) bool {
	if e.Index < 1 || e.Index > mostCount || e.Term < 1 || e.Term > mostCount {
		return false
	}
	switch e.Kind {
	case kindNone:
		return len(e.Key) == 0 && plainCellMayBe(e.Cell)
	case kindPut:
		return len(e.Key) >= 1 && len(e.Key) <= mostKey && plainCellMayBe(e.Cell)
	case kindDelete:
		return len(e.Key) >= 1 && len(e.Key) <= mostKey && isNought(e.Cell)
	}
	return false
}

func plainBatch(l []api.Entry) bool {
	if len(l) == 0 || len(l) > mostBatch {
		return false
	}
	for i := range l {
		if !plainMayBe(l[i]) || l[i].Index != l[0].Index+i {
			return false
		}
		for _, ahead := range l[:i] {
			if ahead.Term > l[i].Term {
				return false
			}
		}
	}
	return true
}

func cellBytes(c api.Cell) []byte {
	if !c.Far {
		return slices.Concat([]byte{0}, number(uint64(len(c.Bytes))), c.Bytes)
	}
	p := c.Point
	return slices.Concat([]byte{1}, number(uint64(p.Seg)), number(uint64(p.At)), number(uint64(p.Len)), []byte{byte(p.Sum), byte(p.Sum >> 8), byte(p.Sum >> 16), byte(p.Sum >> 24)})
}

// oneBytes goes by the chapter's words; it puts entries that may not be, too.
func oneBytes(e api.Entry) []byte {
	b := slices.Concat(number(uint64(e.Term)), []byte{byte(e.Kind)}, number(uint64(len(e.Key))), []byte(e.Key))
	if e.Kind != kindDelete {
		b = append(b, cellBytes(e.Cell)...)
	}
	return b
}

// batchBytes are those of entries, with any number of them and any first Index ahead.
func batchBytes(n, first uint64, l ...api.Entry) []byte {
	b := slices.Concat(number(n), number(first))
	for _, e := range l {
		b = append(b, oneBytes(e)...)
	}
	return b
}

func plainBytes(l []api.Entry) []byte {
	return batchBytes(uint64(len(l)), uint64(l[0].Index), l...)
}

func plainSame(a, b []api.Entry) bool {
	if len(a) != len(b) {
		return false
	}
	for i, x := range a {
		y := b[i]
		if x.Index != y.Index || x.Term != y.Term || x.Kind != y.Kind || x.Key != y.Key {
			return false
		}
		if x.Cell.Far != y.Cell.Far || string(x.Cell.Bytes) != string(y.Cell.Bytes) {
			return false
		}
		p, q := x.Cell.Point, y.Cell.Point
		if p.Seg != q.Seg || p.At != q.At || p.Len != q.Len || p.Sum != q.Sum {
			return false
		}
	}
	return true
}

// reader takes parts off bytes, and is wrong once there were too few.
type reader struct {
	b     []byte
	wrong bool
}

func (r *reader) take(n uint64) []byte {
	if n > uint64(len(r.b)) {
		r.wrong, n = true, uint64(len(r.b))
	}
	part := r.b[:n]
	r.b = r.b[n:]
	return part
}

func (r *reader) one() int {
	if part := r.take(1); len(part) == 1 {
		return int(part[0])
	}
	return 0
}

func (r *reader) number() uint64 {
	u, n := binary.Uvarint(r.b)
	if n <= 0 {
		r.wrong, n = true, len(r.b)
	}
	r.b = r.b[n:]
	return u
}

func (r *reader) cell() api.Cell {
	if r.one() == 0 {
		return api.Cell{Bytes: r.take(r.number())}
	}
	p := api.Point{Seg: int(r.number()), At: int(r.number()), Len: int(r.number())}
	for i := range 4 {
		p.Sum |= uint32(r.one()) << (8 * i)
	}
	return api.Cell{Far: true, Point: p}
}

// plainGet reads loosely: it is a batch's bytes just if what was read is a batch whose bytes they are.
func plainGet(b []byte) ([]api.Entry, api.Errno) {
	r := &reader{b: b}
	n, first := r.number(), r.number()
	var l []api.Entry
	for i := 0; uint64(i) < n && !r.wrong && i <= mostBatch; i++ {
		e := api.Entry{Index: int(first) + i, Term: int(r.number()), Kind: r.one()}
		e.Key = string(r.take(r.number()))
		if e.Kind != kindDelete {
			e.Cell = r.cell()
		}
		l = append(l, e)
	}
	if r.wrong || !plainBatch(l) || !bytes.Equal(plainBytes(l), b) {
		return nil, api.ErrText
	}
	return l, api.OK
}

func someBytes(r *rand.Rand, n int) []byte {
	b := make([]byte, n)
	for i := range b {
		b[i] = byte(r.Intn(256))
	}
	return b
}

func someCell(r *rand.Rand) api.Cell {
	if r.Intn(2) == 0 {
		return api.Cell{Bytes: someBytes(r, r.Intn(mostPlain+1)>>r.Intn(6))}
	}
	return api.Cell{Far: true, Point: api.Point{
		Seg: 1 + r.Intn(mostCount)>>r.Intn(31),
		At:  r.Intn(mostCount) >> r.Intn(31),
		Len: r.Intn(mostValue+1) >> r.Intn(13),
		Sum: r.Uint32() >> r.Intn(32),
	}}
}

// someBatch has n entries that are a batch.
func someBatch(r *rand.Rand, n int) []api.Entry {
	first := 1 + r.Intn(mostCount-mostBatch)>>r.Intn(31)
	term := 1 + r.Intn(mostCount/2)>>r.Intn(31)
	l := make([]api.Entry, n)
	for i := range l {
		e := api.Entry{Index: first + i, Term: term, Kind: r.Intn(3)}
		if e.Kind != kindNone {
			e.Key = string(someBytes(r, 1+r.Intn(mostKey)>>r.Intn(7)))
		}
		if e.Kind != kindDelete {
			e.Cell = someCell(r)
		}
		l[i] = e
		term += r.Intn(3) * r.Intn(100)
	}
	return l
}

// row is a batch of n entries without keys, from an Index on, of Term 5.
func row(first, n int) []api.Entry {
	l := make([]api.Entry, n)
	for i := range l {
		l[i] = api.Entry{Index: first + i, Term: 5}
	}
	return l
}

// deepCopy shares no memory with l.
func deepCopy(l []api.Entry) []api.Entry {
	l = slices.Clone(l)
	for i := range l {
		l[i].Cell.Bytes = slices.Clone(l[i].Cell.Bytes)
	}
	return l
}

// mayBe is an entry of each kind that may be.
func mayBe(kind int) api.Entry {
	e := api.Entry{Index: 3, Term: 2, Kind: kind}
	if kind != kindNone {
		e.Key = "k"
	}
	return e
}

func checkEntry(t *testing.T, e api.Entry, want api.Errno) {
	t.Helper()
	if err := Check(e); err != want {
		t.Errorf("Check(%v) = %d, want %d", e, err, want)
	}
	if plainMayBe(e) != (want == api.OK) {
		t.Errorf("the words say otherwise of %v", e)
	}
	checkBatch(t, []api.Entry{e}, want)
}

// checkBatch asks Batch and Put, and Get of what was put.
func checkBatch(t *testing.T, l []api.Entry, want api.Errno) {
	t.Helper()
	if plainBatch(l) != (want == api.OK) {
		t.Fatalf("the words say otherwise of %v", l)
	}
	if err := Batch(l); err != want {
		t.Fatalf("Batch(%v) = %d, want %d", l, err, want)
	}
	b, err := Put(l)
	if want != api.OK {
		if b != nil || err != want {
			t.Fatalf("Put(%v) = %v, %d; want nothing, %d", l, b, err, want)
		}
		return
	}
	if err != api.OK || !bytes.Equal(b, plainBytes(l)) {
		t.Fatalf("Put(%v) = %v, %d; want %v", l, b, err, plainBytes(l))
	}
	checkGet(t, b, l)
}

func checkGet(t *testing.T, b []byte, want []api.Entry) {
	t.Helper()
	l, err := Get(b)
	if err != api.OK || !plainSame(l, want) {
		t.Fatalf("Get(%v) = %v, %d; want %v", b, l, err, want)
	}
}

func checkNone(t *testing.T, b []byte) {
	t.Helper()
	if l, err := Get(b); l != nil || err != api.ErrText {
		t.Fatalf("Get(%v) = %v, %d; want no batch", b, l, err)
	}
}

// En1: bytes that are known.
func TestPutKnown(t *testing.T) {
	for _, c := range []struct {
		l    []api.Entry
		want []byte
	}{
		{
			[]api.Entry{{Index: 3, Term: 2, Kind: api.KindPut, Key: "k"}, {Index: 4, Term: 2, Kind: api.KindNone}},
			[]byte{2, 3, 2, 1, 1, 'k', 0, 0, 2, 0, 0, 0, 0},
		},
		{[]api.Entry{{Index: 1, Term: 1}}, []byte{1, 1, 1, 0, 0, 0, 0}},
		{[]api.Entry{{Index: 300, Term: 301, Kind: api.KindDelete, Key: "ab"}}, []byte{1, 172, 2, 173, 2, 2, 2, 'a', 'b'}},
		{
			[]api.Entry{{Index: 7, Term: 8, Cell: api.Cell{Bytes: []byte{9, 10}}}},
			[]byte{1, 7, 8, 0, 0, 0, 2, 9, 10},
		},
		{
			[]api.Entry{{Index: mostCount, Term: mostCount, Kind: api.KindPut, Key: "\x00\xff", Cell: api.Cell{Far: true, Point: api.Point{Seg: 1, At: 2, Len: 3, Sum: 4}}}},
			[]byte{1, 255, 255, 255, 255, 7, 255, 255, 255, 255, 7, 1, 2, 0, 255, 1, 1, 2, 3, 4, 0, 0, 0},
		},
	} {
		if b, err := Put(c.l); err != api.OK || !bytes.Equal(b, c.want) {
			t.Errorf("Put(%v) = %v, %d; want %v", c.l, b, err, c.want)
		}
		if err := Batch(c.l); err != api.OK {
			t.Errorf("Batch(%v) = %d", c.l, err)
		}
		checkGet(t, c.want, c.l)
	}
}

// En1: Index and Term at their edges, of each Kind.
func TestCheckOfIndexAndTerm(t *testing.T) {
	for _, n := range []struct {
		n    int
		want api.Errno
	}{
		{math.MinInt, api.ErrArg}, {math.MinInt32, api.ErrArg}, {-1, api.ErrArg}, {0, api.ErrArg},
		{1, api.OK}, {2, api.OK}, {127, api.OK}, {128, api.OK}, {mostCount - 1, api.OK}, {mostCount, api.OK},
		{mostCount + 1, api.ErrArg}, {1 << 32, api.ErrArg}, {1<<32 + 1, api.ErrArg}, {math.MaxInt, api.ErrArg},
	} {
		for kind := range 3 {
			e := mayBe(kind)
			e.Index = n.n
			checkEntry(t, e, n.want)
			e = mayBe(kind)
			e.Term = n.n
			checkEntry(t, e, n.want)
			e.Index = n.n
			checkEntry(t, e, n.want)
		}
	}
}

// En1: the three Kinds, and others, with a Key and without.
func TestCheckOfKinds(t *testing.T) {
	for _, kind := range []int{api.KindNone, api.KindPut, api.KindDelete} {
		checkEntry(t, mayBe(kind), api.OK)
	}
	for _, kind := range []int{math.MinInt, -256, -1, 3, 4, 255, 256, 257, 258, 1 << 32, 1<<32 + 1, math.MaxInt} {
		for _, key := range []string{"", "k"} {
			checkEntry(t, api.Entry{Index: 3, Term: 2, Kind: kind, Key: key}, api.ErrArg)
		}
	}
}

// En1: Keys of 0, 1, MaxKey and more bytes, of each Kind; bytes are counted, not letters.
func TestCheckOfKeys(t *testing.T) {
	for _, n := range []int{0, 1, 2, mostKey - 1, mostKey, mostKey + 1, mostKey + 2, 127, 128, 256, 257, 320, mostValue} {
		for _, part := range []string{"k", "\x00", "\xff"} {
			key := strings.Repeat(part, n)
			keyed, keyless := api.ErrArg, api.ErrArg
			if n >= 1 && n <= 64 {
				keyed = api.OK
			}
			if n == 0 {
				keyless = api.OK
			}
			checkEntry(t, api.Entry{Index: 3, Term: 2, Kind: kindNone, Key: key}, keyless)
			checkEntry(t, api.Entry{Index: 3, Term: 2, Kind: kindPut, Key: key}, keyed)
			checkEntry(t, api.Entry{Index: 3, Term: 2, Kind: kindDelete, Key: key}, keyed)
		}
	}
	checkEntry(t, api.Entry{Index: 3, Term: 2, Kind: kindPut, Key: strings.Repeat("é", 32)}, api.OK)
	checkEntry(t, api.Entry{Index: 3, Term: 2, Kind: kindPut, Key: strings.Repeat("é", 33)}, api.ErrArg)
}

// cellsThatMayBe are at the edges; the first two are nought.
func cellsThatMayBe() []api.Cell {
	return []api.Cell{
		{},
		{Bytes: []byte{}},
		{Bytes: []byte{0}},
		{Bytes: make([]byte, mostPlain)},
		{Far: true, Point: api.Point{Seg: 1}},
		{Far: true, Bytes: []byte{}, Point: api.Point{Seg: 1, At: 2, Len: 3, Sum: 4}},
		{Far: true, Point: api.Point{Seg: mostCount, At: mostCount, Len: mostValue, Sum: math.MaxUint32}},
	}
}

func cellsThatMayNotBe() []api.Cell {
	return []api.Cell{
		{Bytes: make([]byte, mostPlain+1)},
		{Bytes: make([]byte, mostValue)},
		{Point: api.Point{Seg: 1}},
		{Point: api.Point{At: 1}},
		{Point: api.Point{Len: 1}},
		{Point: api.Point{Sum: 1}},
		{Far: true},
		{Far: true, Bytes: []byte{7}},
		{Far: true, Bytes: []byte{7}, Point: api.Point{Seg: 1}},
		{Far: true, Point: api.Point{Seg: -1}},
		{Far: true, Point: api.Point{Seg: mostCount + 1}},
		{Far: true, Point: api.Point{Seg: 1, At: -1}},
		{Far: true, Point: api.Point{Seg: 1, At: mostCount + 1}},
		{Far: true, Point: api.Point{Seg: 1, Len: -1}},
		{Far: true, Point: api.Point{Seg: 1, Len: mostValue + 1}},
	}
}

// En1: Cells of each Kind; of KindDelete only nought.
func TestCheckOfCells(t *testing.T) {
	for i, c := range cellsThatMayBe() {
		for kind := range 3 {
			e := mayBe(kind)
			e.Cell = c
			want := api.OK
			if kind == kindDelete && i >= 2 {
				want = api.ErrArg
			}
			checkEntry(t, e, want)
		}
	}
	for _, c := range cellsThatMayNotBe() {
		for kind := range 3 {
			e := mayBe(kind)
			e.Cell = c
			checkEntry(t, e, api.ErrArg)
		}
	}
}

// En1: how many entries a batch has; the chapter's example is the one of none.
func TestBatchByLength(t *testing.T) {
	checkBatch(t, nil, api.ErrArg)
	checkBatch(t, []api.Entry{}, api.ErrArg)
	for n := 1; n <= 16; n++ {
		checkBatch(t, row(9, n), api.OK)
		checkBatch(t, row(1, n), api.OK)
		checkBatch(t, row(mostCount-n+1, n), api.OK)
		checkBatch(t, row(mostCount-n+2, n), api.ErrArg)
		checkBatch(t, row(0, n), api.ErrArg)
	}
	for _, n := range []int{17, 18, 32, 256, 257, 1000} {
		checkBatch(t, row(9, n), api.ErrArg)
	}
}

// En1: Indexes that are not one behind the other, at each place.
func TestBatchByIndexes(t *testing.T) {
	for n := 2; n <= mostBatch; n++ {
		for i := 1; i < n; i++ {
			leftOut := row(9, n)
			for k := i; k < n; k++ {
				leftOut[k].Index++
			}
			checkBatch(t, leftOut, api.ErrArg)
			twice := row(9, n)
			for k := i; k < n; k++ {
				twice[k].Index--
			}
			checkBatch(t, twice, api.ErrArg)
			swapped := row(9, n)
			swapped[i-1], swapped[i] = swapped[i], swapped[i-1]
			checkBatch(t, swapped, api.ErrArg)
			for _, index := range []int{1, 8, 1<<32 + 9 + i, mostCount} {
				other := row(9, n)
				other[i].Index = index
				checkBatch(t, other, api.ErrArg)
			}
		}
		falling := row(9, n)
		slices.Reverse(falling)
		checkBatch(t, falling, api.ErrArg)
	}
	checkBatch(t, []api.Entry{{Index: mostCount, Term: 1}, {Index: 1, Term: 1}}, api.ErrArg)
	checkBatch(t, []api.Entry{{Index: mostCount, Term: 1}, {Index: mostCount + 1, Term: 1}}, api.ErrArg)
	checkBatch(t, []api.Entry{{Index: math.MaxInt, Term: 1}, {Index: math.MinInt, Term: 1}}, api.ErrArg)
}

// En1: Terms that rise, stay and fall.
func TestBatchByTerms(t *testing.T) {
	for _, c := range []struct {
		terms []int
		want  api.Errno
	}{
		{[]int{1, 2}, api.OK},
		{[]int{1, mostCount}, api.OK},
		{[]int{1, 1, 1}, api.OK},
		{[]int{mostCount, mostCount}, api.OK},
		{[]int{1, 1, 7, 7, 9}, api.OK},
		{[]int{2, 1}, api.ErrArg},
		{[]int{mostCount, 1}, api.ErrArg},
		{[]int{1, 1, 7, 6, 9}, api.ErrArg},
		{[]int{5, 4, 5}, api.ErrArg},
		{[]int{5, 5, 4}, api.ErrArg},
		{[]int{3, 9, 4, 9}, api.ErrArg},
		{[]int{0, 1}, api.ErrArg},
		{[]int{1, mostCount + 1}, api.ErrArg},
	} {
		l := row(9, len(c.terms))
		for i, term := range c.terms {
			l[i].Term = term
		}
		checkBatch(t, l, c.want)
	}
	for i := range mostBatch - 1 {
		l := row(9, mostBatch)
		l[i].Term++
		checkBatch(t, l, api.ErrArg)
		l[i].Term -= 2
		if i == 0 {
			checkBatch(t, l, api.OK)
		} else {
			checkBatch(t, l, api.ErrArg)
		}
	}
}

// En1: one entry of several that may not be, at each place.
func TestBatchWithOneThatMayNotBe(t *testing.T) {
	wrong := []func(*api.Entry){
		func(e *api.Entry) { e.Kind = 3 },
		func(e *api.Entry) { e.Kind = -1 },
		func(e *api.Entry) { e.Key = "k" },
		func(e *api.Entry) { e.Kind = kindPut },
		func(e *api.Entry) { e.Kind = kindDelete },
		func(e *api.Entry) { e.Kind, e.Key = kindPut, strings.Repeat("k", mostKey+1) },
		func(e *api.Entry) { e.Kind, e.Key, e.Cell.Bytes = kindDelete, "k", []byte{0} },
		func(e *api.Entry) { e.Cell.Far = true },
		func(e *api.Entry) { e.Cell.Bytes = make([]byte, mostPlain+1) },
	}
	for _, n := range []int{1, 2, 3, mostBatch} {
		for i := range n {
			for _, turn := range wrong {
				l := row(9, n)
				turn(&l[i])
				checkBatch(t, l, api.ErrArg)
			}
		}
	}
}

// En1: Batch and Put as the words say, of batches, and of such as are turned in one thing.
func TestBatchAsTheWordsSay(t *testing.T) {
	r := newSource()
	good, bad := 0, 0
	for range 20000 {
		l := someBatch(r, 1+r.Intn(mostBatch))
		checkBatch(t, l, api.OK)
		e := &l[r.Intn(len(l))]
		switch r.Intn(7) {
		case 0:
			e.Index += r.Intn(3) - 1
		case 1:
			e.Term += r.Intn(5) - 2
		case 2:
			e.Kind = r.Intn(5) - 1
		case 3:
			e.Key = string(someBytes(r, r.Intn(70)))
		case 4:
			e.Cell = someCell(r)
		case 5:
			e.Cell = api.Cell{}
		case 6:
			l = append(l, someBatch(r, 1+r.Intn(3))...)
		}
		want := api.ErrArg
		if plainBatch(l) {
			want = api.OK
			good++
		} else {
			bad++
		}
		checkBatch(t, l, want)
	}
	if good < 1000 || bad < 1000 {
		t.Errorf("only %d were batches, and %d were none", good, bad)
	}
}

// En1, En2: no byte, and bytes that end within a batch's, wherever that is.
func TestGetOfBeginnings(t *testing.T) {
	checkNone(t, nil)
	checkNone(t, []byte{})
	far := api.Cell{Far: true, Point: api.Point{Seg: 300, At: 301, Len: 302, Sum: 0x01020304}}
	list := [][]api.Entry{
		{
			{Index: 300, Term: 301, Kind: kindPut, Key: strings.Repeat("k", mostKey), Cell: far},
			{Index: 301, Term: 302, Kind: kindNone, Cell: api.Cell{Bytes: make([]byte, mostPlain)}},
			{Index: 302, Term: 303, Kind: kindDelete, Key: "abc"},
		},
		{{Index: 300, Term: 301, Kind: kindDelete, Key: "abc"}},
		{{Index: 300, Term: 301, Kind: kindNone, Cell: far}},
		{{Index: 1, Term: 1}},
		row(mostCount-15, 16),
	}
	r := newSource()
	for range 300 {
		list = append(list, someBatch(r, 1+r.Intn(mostBatch)))
	}
	for _, l := range list {
		b := plainBytes(l)
		checkGet(t, b, l)
		for end := range b {
			checkNone(t, b[:end])
			checkNone(t, slices.Clip(slices.Clone(b[:end])))
		}
	}
}

// En1, En2: bytes behind a batch's, also such as are an entry's, or a batch's.
func TestGetOfMoreBytes(t *testing.T) {
	r := newSource()
	for range 500 {
		l := someBatch(r, 1+r.Intn(mostBatch))
		b := plainBytes(l)
		next := l[len(l)-1]
		next.Index++
		for _, behind := range [][]byte{{0}, {1}, {128}, {255}, {0, 0}, oneBytes(next), b, someBytes(r, 1+r.Intn(40)), make([]byte, 5000)} {
			checkNone(t, slices.Concat(b, behind))
		}
	}
}

// wrongNumbers are no number's bytes: longer than they need be, or of more than 64 bits, or without an end.
func wrongNumbers() [][]byte {
	return [][]byte{
		{128, 0},
		{129, 0},
		{130, 0},
		{129, 128, 0},
		{128, 128, 128, 128, 0},
		append(bytes.Repeat([]byte{128}, 9), 2),
		append(bytes.Repeat([]byte{129}, 9), 2),
		append(bytes.Repeat([]byte{128}, 10), 1),
		bytes.Repeat([]byte{255}, 30),
		{128},
		{255, 255},
	}
}

// En1: numbers of a batch that are none, in each place.
func TestGetOfWrongNumbers(t *testing.T) {
	checkGet(t, []byte{1, 1, 1, 1, 1, 'k', 0, 1, 'v'}, []api.Entry{{Index: 1, Term: 1, Kind: kindPut, Key: "k", Cell: api.Cell{Bytes: []byte{'v'}}}})
	for _, bad := range wrongNumbers() {
		for _, behind := range [][]byte{nil, make([]byte, 100)} {
			checkNone(t, slices.Concat(bad, []byte{1, 1, 1, 1, 'k', 0, 1, 'v'}, behind))
			checkNone(t, slices.Concat([]byte{1}, bad, []byte{1, 1, 1, 'k', 0, 1, 'v'}, behind))
			checkNone(t, slices.Concat([]byte{1, 1}, bad, []byte{1, 1, 'k', 0, 1, 'v'}, behind))
			checkNone(t, slices.Concat([]byte{1, 1, 1, 1}, bad, []byte{'k', 0, 1, 'v'}, behind))
			checkNone(t, slices.Concat([]byte{1, 1, 1, 1, 1, 'k', 0}, bad, []byte{'v'}, behind))
			checkNone(t, slices.Concat([]byte{1, 1, 1, 1, 1, 'k', 1}, bad, []byte{1, 1, 0, 0, 0, 0}, behind))
		}
	}
}

// En1: a number of entries that is 0, or more than a batch has, or not how many follow.
func TestGetOfWrongNumbersOfEntries(t *testing.T) {
	for n := uint64(1); n <= 16; n++ {
		l := row(9, int(n))
		checkGet(t, batchBytes(n, 9, l...), l)
		for other := uint64(0); other <= 18; other++ {
			if other != n {
				checkNone(t, batchBytes(other, 9, l...))
			}
		}
	}
	checkNone(t, []byte{0})
	checkNone(t, []byte{0, 1})
	for _, n := range []uint64{17, 18, 32, 128, 256, 257, 1000, 1 << 16, mostCount, 1 << 31, 1 << 32, 1<<32 + 1, 1<<63 - 1, 1 << 63, 1<<63 + 1, math.MaxUint64} {
		checkNone(t, batchBytes(n, 9, row(9, 1)...))
		checkNone(t, batchBytes(n, 9, row(9, 18)...))
		checkNone(t, batchBytes(n, 9))
	}
	checkNone(t, batchBytes(17, 9, row(9, 17)...))
	checkNone(t, batchBytes(256, 9, row(9, 256)...))
}

// great are numbers that do not count; taken as fewer bits, some would.
func great() []uint64 {
	return []uint64{mostCount + 1, mostCount + 2, 1 << 32, 1<<32 + 1, 1<<63 - 1, 1 << 63, 1<<63 + 1, math.MaxUint64 - 3, math.MaxUint64}
}

// En1: a first Index of 0, or too great, also for the entries behind.
func TestGetOfWrongIndexes(t *testing.T) {
	for n := 1; n <= mostBatch; n++ {
		l := row(mostCount-n+1, n)
		checkGet(t, batchBytes(uint64(n), uint64(mostCount-n+1), l...), l)
		for over := 1; over <= n; over++ {
			checkNone(t, batchBytes(uint64(n), uint64(mostCount-n+1+over), l...))
		}
		for _, first := range append(great(), 0) {
			checkNone(t, batchBytes(uint64(n), first, l...))
		}
	}
}

// En1: a Term of 0, or too great, and Terms that fall.
func TestGetOfWrongTerms(t *testing.T) {
	one := oneBytes(api.Entry{Term: 7})[1:]
	for _, term := range append(great(), 0) {
		checkNone(t, slices.Concat([]byte{1, 9}, number(term), one))
		checkNone(t, slices.Concat([]byte{2, 9, 1}, one, number(term), one))
		checkNone(t, slices.Concat([]byte{2, 9}, number(term), one, number(mostCount), one))
	}
	terms := []uint64{1, 2, 127, 128, 300, mostCount - 1, mostCount}
	for _, a := range terms {
		for _, c := range terms {
			b := slices.Concat([]byte{2, 9}, number(a), one, number(c), one)
			if a > c {
				checkNone(t, b)
				continue
			}
			checkGet(t, b, []api.Entry{{Index: 9, Term: int(a)}, {Index: 10, Term: int(c)}})
		}
	}
	checkNone(t, slices.Concat([]byte{3, 9, 5}, one, []byte{7}, one, []byte{6}, one))
}

// En1: Kinds that are none, and Keys that may not be of a Kind.
func TestGetOfWrongKindsAndKeys(t *testing.T) {
	for kind := 3; kind < 256; kind++ {
		checkNone(t, []byte{1, 9, 5, byte(kind), 0, 0, 0})
		checkNone(t, []byte{1, 9, 5, byte(kind), 1, 'k', 0, 0})
		checkNone(t, []byte{1, 9, 5, byte(kind), 1, 'k'})
	}
	for _, n := range []int{0, 1, 2, mostKey - 1, mostKey, mostKey + 1, 100, 127, 128, 256, 257, 320, 1000} {
		for kind := range 3 {
			e := api.Entry{Index: 9, Term: 5, Kind: kind, Key: strings.Repeat("k", n)}
			b := batchBytes(1, 9, e)
			if (kind == kindNone) == (n == 0) && n <= 64 {
				checkGet(t, b, []api.Entry{e})
			} else {
				checkNone(t, b)
			}
		}
	}
	for _, n := range append(great(), 1<<16, mostCount) {
		for kind := range byte(3) {
			checkNone(t, slices.Concat([]byte{1, 9, 5, kind}, number(n), []byte{'k', 0, 0}))
			checkNone(t, slices.Concat([]byte{1, 9, 5, kind}, number(n), make([]byte, 1<<16)))
		}
	}
}

// En1: Cells that may not be; KindDelete has no Cell's bytes, the others have.
func TestGetOfWrongCells(t *testing.T) {
	for _, c := range cellsThatMayBe() {
		for kind := range 2 {
			e := mayBe(kind)
			e.Cell = c
			checkGet(t, batchBytes(1, 3, e), []api.Entry{e})
		}
		checkNone(t, append(batchBytes(1, 3, mayBe(kindDelete)), cellBytes(c)...))
	}
	for _, c := range cellsThatMayNotBe() {
		// A near cell's bytes do not tell its Point, nor a far one's its Bytes.
		told := c
		if c.Far {
			told.Bytes = nil
		} else {
			told.Point = api.Point{}
		}
		if plainCellMayBe(told) {
			continue
		}
		for kind := range 2 {
			e := mayBe(kind)
			e.Cell = c
			checkNone(t, batchBytes(1, 3, e))
			checkNone(t, append(batchBytes(1, 3, e), make([]byte, 100)...))
		}
	}
	for first := 2; first < 256; first++ {
		checkNone(t, []byte{1, 9, 5, kindNone, 0, byte(first), 0})
		checkNone(t, []byte{1, 9, 5, kindPut, 1, 'k', byte(first), 1, 2, 3, 4, 0, 0, 0})
	}
	checkNone(t, []byte{1, 9, 5, kindNone, 0})
	checkNone(t, []byte{1, 9, 5, kindPut, 1, 'k'})
}

// mixedBytes are such that many of them begin as a batch's do.
func mixedBytes(r *rand.Rand, n int) []byte {
	palette := []byte{0, 0, 0, 1, 1, 1, 2, 2, 3, 4, 16, 17, 64, 65, 127, 128, 255}
	b := someBytes(r, n)
	for i := range b {
		if r.Intn(5) > 0 {
			b[i] = palette[r.Intn(len(palette))]
		}
	}
	return b
}

// En1, En2: Get as the words say, of mixed bytes, and of batches' bytes that are spoilt.
func TestGetAsTheWordsSay(t *testing.T) {
	r := newSource()
	batches, others := 0, 0
	check := func(b []byte) {
		want, wantErr := plainGet(b)
		l, err := Get(b)
		if err != wantErr || !plainSame(l, want) {
			t.Fatalf("Get(%v) = %v, %d; want %v, %d", b, l, err, want, wantErr)
		}
		if err == api.OK {
			batches++
		} else {
			others++
		}
	}
	for range 30000 {
		check(mixedBytes(r, r.Intn(24)))
		b := plainBytes(someBatch(r, 1+r.Intn(3)))
		check(b)
		at := r.Intn(len(b))
		check(slices.Concat(b[:at], b[at+1:]))
		check(slices.Concat(b[:at], mixedBytes(r, 1+r.Intn(2)), b[at:]))
		b[at] ^= 1 << r.Intn(8)
		check(b)
	}
	if batches < 40000 || others < 40000 {
		t.Errorf("only %d batches, and %d others, came up", batches, others)
	}
}

// En1, En2: Get of all bytes up to eight, made of the few that matter most.
func TestGetOfAllShortBytes(t *testing.T) {
	few := []byte{0, 1, 2, 3, 128}
	found := 0
	var grow func(b []byte)
	grow = func(b []byte) {
		want, wantErr := plainGet(b)
		l, err := Get(b)
		if err != wantErr || !plainSame(l, want) {
			t.Fatalf("Get(%v) = %v, %d; want %v, %d", b, l, err, want, wantErr)
		}
		if err == api.OK {
			found++
		}
		if len(b) == 8 {
			return
		}
		for _, x := range few {
			grow(append(b, x))
		}
	}
	grow(make([]byte, 0, 8))
	if found == 0 {
		t.Error("no batch came up")
	}
}

// En2: what is put is got.
func TestPutIsGot(t *testing.T) {
	r := newSource()
	for i := range 20000 {
		l := someBatch(r, 1+i%mostBatch)
		b, err := Put(l)
		if err != api.OK {
			t.Fatalf("Put(%v) = %d", l, err)
		}
		got, err := Get(b)
		if err != api.OK || !Same(got, l) || !plainSame(got, l) || Batch(got) != api.OK {
			t.Fatalf("%v is got as %v, %d", l, got, err)
		}
	}
}

// En2: batches that are unlike have bytes that are unlike, and are not the beginning of one another.
func TestNoBatchIsAnothersBeginning(t *testing.T) {
	r := newSource()
	var all [][]byte
	for range 3000 {
		l := someBatch(r, 1+r.Intn(2))
		for i := range l {
			l[i].Index, l[i].Term = 1+i, 1
			l[i].Key = l[i].Key[:min(len(l[i].Key), 1)]
			l[i].Cell.Bytes = l[i].Cell.Bytes[:min(len(l[i].Cell.Bytes), 1)]
		}
		b, err := Put(l)
		if err != api.OK {
			t.Fatalf("Put(%v) = %d", l, err)
		}
		all = append(all, b)
	}
	slices.SortFunc(all, bytes.Compare)
	for i := 1; i < len(all); i++ {
		if bytes.HasPrefix(all[i], all[i-1]) && !bytes.Equal(all[i], all[i-1]) {
			t.Fatalf("%v begins with %v", all[i], all[i-1])
		}
	}
}

// En1: lists alike, of another length, and unlike in one thing alone.
func TestSame(t *testing.T) {
	p := api.Point{Seg: 1, At: 2, Len: 3, Sum: 4}
	base := []api.Entry{
		{Index: 3, Term: 2, Kind: kindPut, Key: "key", Cell: api.Cell{Bytes: []byte{7, 8}}},
		{Index: 4, Term: 2, Kind: kindPut, Key: "k", Cell: api.Cell{Far: true, Point: p}},
		{Index: 5, Term: 3, Kind: kindDelete, Key: "k"},
	}
	check := func(a, b []api.Entry, want bool) {
		t.Helper()
		if Same(a, b) != want || Same(b, a) != want {
			t.Errorf("Same(%v, %v) is not %v both ways", a, b, want)
		}
	}
	check(nil, nil, true)
	check(nil, []api.Entry{}, true)
	check(nil, base, false)
	check([]api.Entry{}, make([]api.Entry, 1), false)
	check(make([]api.Entry, 2), make([]api.Entry, 2), true)
	check(make([]api.Entry, 2), make([]api.Entry, 3), false)
	check(make([]api.Entry, 40), make([]api.Entry, 40), true)
	check(base, base, true)
	check(base, deepCopy(base), true)
	check(base, base[:2], false)
	check(base, base[1:], false)
	check(base, append(slices.Clone(base), base[2]), false)
	check(base, []api.Entry{base[1], base[0], base[2]}, false)
	for i := range base {
		for _, turn := range []func(*api.Entry){
			func(e *api.Entry) { e.Index++ },
			func(e *api.Entry) { e.Index += 1 << 32 },
			func(e *api.Entry) { e.Index = -e.Index },
			func(e *api.Entry) { e.Term++ },
			func(e *api.Entry) { e.Term += 1 << 32 },
			func(e *api.Entry) { e.Kind = kindNone },
			func(e *api.Entry) { e.Kind += 256 },
			func(e *api.Entry) { e.Key = "" },
			func(e *api.Entry) { e.Key += "\x00" },
			func(e *api.Entry) { e.Key = "K" + e.Key[1:] },
			func(e *api.Entry) { e.Cell.Far = !e.Cell.Far },
			func(e *api.Entry) { e.Cell.Bytes = []byte{7, 9} },
			func(e *api.Entry) { e.Cell.Bytes = []byte{7, 8, 0} },
			func(e *api.Entry) { e.Cell.Bytes = []byte{7} },
			func(e *api.Entry) { e.Cell.Point.Seg++ },
			func(e *api.Entry) { e.Cell.Point.At++ },
			func(e *api.Entry) { e.Cell.Point.Len++ },
			func(e *api.Entry) { e.Cell.Point.Sum++ },
		} {
			other := deepCopy(base)
			turn(&other[i])
			check(base, other, false)
			check(other, deepCopy(other), true)
		}
	}
	empty := deepCopy(base)
	empty[1].Cell.Bytes, empty[2].Cell.Bytes = []byte{}, make([]byte, 0, 9)
	check(base, empty, true)
}

// En1: Same as the words say.
func TestSameAsTheWordsSay(t *testing.T) {
	r := newSource()
	few := func() []api.Entry {
		l := make([]api.Entry, r.Intn(3))
		for i := range l {
			l[i] = api.Entry{Index: 1, Term: 1 + r.Intn(5)/4, Kind: r.Intn(5) / 4, Key: "k"[:r.Intn(5)/4]}
			l[i].Cell = api.Cell{Far: r.Intn(5) > 3, Bytes: make([]byte, r.Intn(5)/4)}
			l[i].Cell.Point.Sum = uint32(r.Intn(5) / 4)
		}
		return l
	}
	alike := 0
	for range 20000 {
		a, b := few(), few()
		if Same(a, b) != plainSame(a, b) {
			t.Fatalf("Same(%v, %v) = %v", a, b, Same(a, b))
		}
		if len(a) > 0 && Same(a, b) {
			alike++
		}
	}
	if alike < 100 {
		t.Errorf("only %d were alike", alike)
	}
}

// R3: no call writes to what it is handed, nor behind its end.
func TestNothingIsWritten(t *testing.T) {
	r := newSource()
	for range 1000 {
		whole := someBatch(r, mostBatch)
		for i, e := range whole {
			// Bytes that stand in longer memory.
			whole[i].Cell.Bytes = append(e.Cell.Bytes, 1, 2, 3)[:len(e.Cell.Bytes)]
		}
		if r.Intn(3) == 0 {
			whole[r.Intn(mostBatch)].Term = 0
		}
		var memory [][]byte
		for _, e := range whole {
			memory = append(memory, slices.Clone(e.Cell.Bytes[:cap(e.Cell.Bytes)]))
		}
		kept := deepCopy(whole)
		part := whole[:1+r.Intn(mostBatch)]
		Check(part[0])
		Batch(part)
		Put(part)
		Same(part, whole)
		Same(part, kept[:len(part)])
		if !plainSame(whole, kept) {
			t.Fatal("a call wrote to its entries")
		}
		for i, e := range whole {
			if !bytes.Equal(memory[i], e.Cell.Bytes[:cap(e.Cell.Bytes)]) {
				t.Fatal("a call wrote to a cell's bytes, or behind them")
			}
		}
		b := append(plainBytes(someBatch(r, 1+r.Intn(3))), mixedBytes(r, 30)...)
		keptBytes := slices.Clone(b)
		Get(b[:len(b)-30])
		Get(b)
		Get(b[:r.Intn(len(b))])
		if !bytes.Equal(b, keptBytes) {
			t.Fatal("Get wrote to its bytes")
		}
	}
}

// spoil turns all that can be reached from b.
func spoil(b []byte) {
	for i := range b[:cap(b)] {
		b[:cap(b)][i] ^= 255
	}
}

// spoilEntries turns all that can be reached from l.
func spoilEntries(l []api.Entry) {
	for i := range l {
		spoil(l[i].Cell.Bytes)
	}
	whole := l[:cap(l)]
	for i := range whole {
		whole[i] = api.Entry{Index: -1, Key: "spoilt"}
	}
}

// R3: what Put tells is no part of what was handed in, nor of another answer.
func TestPutIsNew(t *testing.T) {
	r := newSource()
	for range 500 {
		l := someBatch(r, 1+r.Intn(mostBatch))
		kept := deepCopy(l)
		first, _ := Put(l)
		second, _ := Put(l)
		spoil(first)
		if !plainSame(l, kept) {
			t.Fatal("what Put tells is a part of its entries")
		}
		spoilEntries(l)
		if !bytes.Equal(second, plainBytes(kept)) {
			t.Fatal("what Put tells shares memory")
		}
	}
}

// R3: what Get tells is no part of its bytes, nor of another answer; and no two lists of one answer share any.
func TestGetIsNew(t *testing.T) {
	r := newSource()
	for range 500 {
		l := someBatch(r, 1+r.Intn(mostBatch))
		b := plainBytes(l)
		kept := slices.Clone(b)
		first, _ := Get(b)
		second, _ := Get(b)
		third, _ := Get(b)
		spoilEntries(first)
		if !bytes.Equal(b, kept) {
			t.Fatal("what Get tells is a part of its bytes")
		}
		spoil(b)
		if !plainSame(second, l) {
			t.Fatal("what Get tells shares memory with its bytes, or with another answer")
		}
		for i := range third {
			spoil(third[i].Cell.Bytes)
			if !plainSame(third[i+1:], l[i+1:]) {
				t.Fatal("lists of one answer share memory")
			}
		}
	}
}

// R4: the same answers, again and again, whatever the memory around the bytes is.
func TestSameAgain(t *testing.T) {
	r := newSource()
	for range 3000 {
		b := plainBytes(someBatch(r, 1+r.Intn(3)))
		if r.Intn(2) == 0 {
			b[r.Intn(len(b))] ^= 1 << r.Intn(8)
		}
		long := append(slices.Clone(b), mixedBytes(r, 20)...)
		l, err := Get(long[:len(b)])
		Get(mixedBytes(r, 12))
		l2, err2 := Get(slices.Clip(slices.Clone(b)))
		if err != err2 || !plainSame(l, l2) {
			t.Fatalf("Get(%v) answers otherwise", b)
		}
		if err != api.OK {
			continue
		}
		put1, err := Put(l)
		put2, err2 := Put(append(deepCopy(l), api.Entry{})[:len(l)])
		if err != err2 || !bytes.Equal(put1, put2) {
			t.Fatalf("Put(%v) answers otherwise", l)
		}
	}
}

// R1, R5: the zero entry may not be; no list, or an empty one, are the same.
func TestZeroValues(t *testing.T) {
	checkEntry(t, api.Entry{}, api.ErrArg)
	for _, l := range [][]api.Entry{nil, {}, make([]api.Entry, 0, 9)} {
		checkBatch(t, l, api.ErrArg)
		if !Same(l, nil) || !Same(nil, l) || Same(l, make([]api.Entry, 1)) {
			t.Errorf("Same of no list, and %v", l)
		}
	}
	for _, b := range [][]byte{nil, {}, make([]byte, 0, 9)} {
		checkNone(t, b)
	}
	with, _ := Put([]api.Entry{{Index: 1, Term: 1, Cell: api.Cell{Bytes: []byte{}}}})
	without, _ := Put([]api.Entry{{Index: 1, Term: 1}})
	if !bytes.Equal(with, without) {
		t.Errorf("empty Bytes are put as %v, none as %v", with, without)
	}
}

// P1: Get ends, and does not panic, at bytes of any kind; what it answers beside an error is nothing.
func FuzzGet(f *testing.F) {
	r := newSource()
	for n := range mostBatch {
		f.Add(plainBytes(someBatch(r, n+1)))
	}
	f.Fuzz(func(t *testing.T, b []byte) {
		want, wantErr := plainGet(b)
		l, err := Get(b)
		if err != wantErr || !plainSame(l, want) {
			t.Fatalf("Get(%v) = %v, %d; want %v, %d", b, l, err, want, wantErr)
		}
		if err != api.OK && !reflect.DeepEqual(l, []api.Entry(nil)) {
			t.Fatalf("Get(%v) = %v beside an error", b, l)
		}
	})
}

func BenchmarkPut(b *testing.B) {
	l := someBatch(newSource(), mostBatch)
	for b.Loop() {
		Put(l)
	}
}

func BenchmarkGet(b *testing.B) {
	list := plainBytes(someBatch(newSource(), mostBatch))
	for b.Loop() {
		Get(list)
	}
}
