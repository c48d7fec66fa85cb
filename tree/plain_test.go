package tree

import (
	"bytes"
	"math"
	"math/rand"
	"slices"
	"strings"
	"testing"

	"garner/api"
)

// The chapter's words, done plainly, by numbers of their own and by a list in the order of the puts; they share nothing with the package.

const (
	mostCount = 1<<31 - 1
	mostValue = 4096
	mostKey   = 64
	mostPlain = 32
)

func plainPointMayBe(p api.Point) bool {
	return p.Seg >= 1 && p.Seg <= mostCount && p.At >= 0 && p.At <= mostCount && p.Len >= 0 && p.Len <= mostValue
}

func plainMayBe(x api.Item) bool {
	c := x.Cell
	if len(x.Key) == 0 || len(x.Key) > mostKey {
		return false
	}
	if x.Dead {
		return !c.Far && len(c.Bytes) == 0 && c.Point == api.Point{}
	}
	if c.Far {
		return len(c.Bytes) == 0 && plainPointMayBe(c.Point)
	}
	return len(c.Bytes) <= mostPlain && c.Point == api.Point{}
}

// plainBelow holds keys against each other byte by byte.
func plainBelow(a, b string) bool {
	for i := 0; i < len(a) && i < len(b); i++ {
		if a[i] != b[i] {
			return a[i] < b[i]
		}
	}
	return len(a) < len(b)
}

func plainSorted(l []api.Item) bool {
	for i, x := range l {
		if !plainMayBe(x) || i > 0 && !plainBelow(l[i-1].Key, x.Key) {
			return false
		}
	}
	return true
}

func plainSameItem(a, b api.Item) bool {
	return a.Key == b.Key && a.Dead == b.Dead && a.Cell.Far == b.Cell.Far && a.Cell.Point == b.Cell.Point &&
		string(a.Cell.Bytes) == string(b.Cell.Bytes)
}

func plainSame(a, b []api.Item) bool { return slices.EqualFunc(a, b, plainSameItem) }

// plainTree is the items that were put, the last one last.
type plainTree []api.Item

func (p *plainTree) put(x api.Item) api.Errno {
	if !plainMayBe(x) {
		return api.ErrArg
	}
	x.Cell.Bytes = slices.Clone(x.Cell.Bytes)
	*p = append(*p, x)
	return api.OK
}

func (p plainTree) get(key string) (api.Item, bool) {
	for _, x := range slices.Backward(p) {
		if x.Key == key {
			return x, true
		}
	}
	return api.Item{}, false
}

func (p plainTree) all() []api.Item {
	counts := map[string]api.Item{}
	for _, x := range p {
		counts[x.Key] = x
	}
	var l []api.Item
	for _, x := range counts {
		l = append(l, x)
	}
	slices.SortFunc(l, func(a, b api.Item) int {
		if plainBelow(a.Key, b.Key) {
			return -1
		}
		return 1
	})
	return l
}

func (p plainTree) scan(lo, hi string, most int) []api.Item {
	var l []api.Item
	for _, x := range p.all() {
		if len(l) < most && !plainBelow(x.Key, lo) && (hi == "" || plainBelow(x.Key, hi)) {
			l = append(l, x)
		}
	}
	return l
}

func (p plainTree) weight() int {
	n := 0
	for _, x := range p.all() {
		n += len(x.Key) + 16 + len(x.Cell.Bytes)
	}
	return n
}

// checkTree asks for all that a tree tells of itself, and that it is as low as it must be.
func checkTree(t testing.TB, what string, got *Tree, want plainTree) {
	t.Helper()
	all := want.all()
	if l := got.All(); !plainSame(l, all) || !plainSorted(l) {
		t.Fatalf("%s: All: %q, want %q", what, keysOf(l), keysOf(all))
	}
	if n := got.Len(); n != len(all) {
		t.Fatalf("%s: Len: %d, want %d", what, n, len(all))
	}
	if n := got.Weight(); n != want.weight() {
		t.Fatalf("%s: Weight: %d, want %d", what, n, want.weight())
	}
	checkGet(t, what, got, want)
	checkLow(t, got.root)
}

func checkGet(t testing.TB, what string, got *Tree, want plainTree) {
	t.Helper()
	for _, x := range want.all() {
		for _, key := range []string{x.Key, x.Key + "\x00", x.Key[:len(x.Key)-1]} {
			y, found := got.Get(key)
			z, wantFound := want.get(key)
			if found != wantFound || !plainSameItem(y, z) {
				t.Fatalf("%s: Get(%q): %v, %v, want %v, %v", what, key, y, found, z, wantFound)
			}
		}
	}
}

// checkLow is how high the nodes are.
func checkLow(t testing.TB, n *node) int {
	t.Helper()
	if n == nil {
		return 0
	}
	left, right := checkLow(t, n.left), checkLow(t, n.right)
	if left-right > 1 || right-left > 1 {
		t.Fatalf("at %q the sides are %d and %d high", n.item.Key, left, right)
	}
	high := 1 + max(left, right)
	if n.height != high {
		t.Fatalf("%q is %d high, not %d", n.item.Key, high, n.height)
	}
	return high
}

func keysOf(l []api.Item) []string {
	var keys []string
	for _, x := range l[:min(len(l), 20)] {
		keys = append(keys, x.Key)
	}
	return keys
}

func newSource() *rand.Rand { return rand.New(rand.NewSource(10)) }

// someKey is a key that may be, mostly one of few.
func someKey(r *rand.Rand) string {
	if r.Intn(6) == 0 {
		return string(someBytes(r, 1+r.Intn(mostKey)))
	}
	letters := "\x00ab\x7f\x80\xff"
	var s strings.Builder
	for range 1 + r.Intn(3) {
		s.WriteByte(letters[r.Intn(len(letters))])
	}
	return s.String()
}

func someBytes(r *rand.Rand, n int) []byte {
	b := make([]byte, n)
	r.Read(b)
	return b
}

// someItem is one that may be.
func someItem(r *rand.Rand) api.Item {
	x := api.Item{Key: someKey(r)}
	switch r.Intn(4) {
	case 0:
		x.Dead = true
	case 1:
		x.Cell.Far = true
		x.Cell.Point = api.Point{Seg: 1 + r.Intn(mostCount), At: r.Intn(mostCount), Len: r.Intn(mostValue + 1), Sum: r.Uint32()}
	default:
		x.Cell.Bytes = someBytes(r, r.Intn(mostPlain+1))
	}
	return x
}

func someItems(r *rand.Rand, n int) []api.Item {
	l := make([]api.Item, n)
	for i := range l {
		l[i] = someItem(r)
	}
	return l
}

// wrongItems are items that may not be.
func wrongItems() []api.Item {
	p := api.Point{Seg: 1, At: 2, Len: 3, Sum: 4}
	l := []api.Item{
		{},
		{Dead: true},
		{Cell: api.Cell{Bytes: []byte{7}}},
		{Cell: api.Cell{Far: true, Point: p}},
		{Key: strings.Repeat("a", mostKey+1)},
		{Key: strings.Repeat("\xff", mostKey+1), Dead: true},
		{Key: strings.Repeat("\x00", 1000)},
		{Key: strings.Repeat("k", 256+1)},
		{Key: "a", Cell: api.Cell{Bytes: make([]byte, mostPlain+1)}},
		{Key: "a", Cell: api.Cell{Bytes: make([]byte, 256)}},
		{Key: "a", Cell: api.Cell{Bytes: []byte{7}, Point: p}},
		{Key: "a", Cell: api.Cell{Point: p}},
		{Key: "a", Cell: api.Cell{Point: api.Point{Sum: 1}}},
		{Key: "a", Cell: api.Cell{Point: api.Point{Seg: 1}}},
		{Key: "a", Cell: api.Cell{Far: true}},
		{Key: "a", Cell: api.Cell{Far: true, Bytes: []byte{7}}},
		{Key: "a", Cell: api.Cell{Far: true, Bytes: []byte{7}, Point: p}},
		{Key: "a", Dead: true, Cell: api.Cell{Bytes: []byte{0}}},
		{Key: "a", Dead: true, Cell: api.Cell{Bytes: make([]byte, mostPlain)}},
		{Key: "a", Dead: true, Cell: api.Cell{Bytes: make([]byte, mostPlain+1)}},
		{Key: "a", Dead: true, Cell: api.Cell{Far: true}},
		{Key: "a", Dead: true, Cell: api.Cell{Far: true, Point: p}},
		{Key: "a", Dead: true, Cell: api.Cell{Far: true, Point: api.Point{Seg: 1}}},
		{Key: "a", Dead: true, Cell: api.Cell{Point: p}},
		{Key: "a", Dead: true, Cell: api.Cell{Point: api.Point{Sum: 1}}},
	}
	for _, n := range []int{-1, mostCount + 1, 1 << 32, 1<<32 + 1, math.MaxInt, math.MinInt} {
		for _, q := range []api.Point{{Seg: n}, {Seg: 1, At: n}, {Seg: 1, Len: n}} {
			l = append(l, api.Item{Key: "a", Cell: api.Cell{Far: true, Point: q}})
		}
	}
	return append(l,
		api.Item{Key: "a", Cell: api.Cell{Far: true, Point: api.Point{Seg: 0, At: 1, Len: 1}}},
		api.Item{Key: "a", Cell: api.Cell{Far: true, Point: api.Point{Seg: 1, Len: mostValue + 1}}})
}

// rightItems are items that may be, their keys in no order.
func rightItems() []api.Item {
	l := []api.Item{
		{Key: "k"},
		{Key: "d", Dead: true},
		{Key: "e", Dead: true, Cell: api.Cell{Bytes: []byte{}}},
		{Key: "b", Cell: api.Cell{Bytes: []byte{}}},
		{Key: "c", Cell: api.Cell{Bytes: []byte{0}}},
		{Key: "f", Cell: api.Cell{Bytes: make([]byte, mostPlain-1)}},
		{Key: "g", Cell: api.Cell{Bytes: bytes.Repeat([]byte{255}, mostPlain)}},
		{Key: "h", Cell: api.Cell{Far: true, Point: api.Point{Seg: 1}}},
		{Key: "i", Cell: api.Cell{Far: true, Bytes: []byte{}, Point: api.Point{Seg: mostCount, At: mostCount, Len: mostValue, Sum: 1<<32 - 1}}},
		{Key: "j", Cell: api.Cell{Far: true, Point: api.Point{Seg: 1, At: 2, Len: 3, Sum: 4}}},
	}
	for _, n := range []int{1, 2, 63, mostKey} {
		for _, s := range []string{"\x00", "\x01", "a", "\x80", "\xff"} {
			l = append(l, api.Item{Key: strings.Repeat(s, n), Cell: api.Cell{Bytes: []byte(s)}})
		}
	}
	for i := range 256 {
		l = append(l, api.Item{Key: "x" + string([]byte{byte(i)}), Dead: i%2 == 0})
	}
	return l
}
