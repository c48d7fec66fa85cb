package merge

import (
	"math/rand"
	"slices"
	"strings"

	"garner/api"
)

// The chapter's words, and those of the layers below it, done plainly, with numbers of their own, key by key; they share nothing with the package, nor with the layers below it.

const (
	mostLists = 100
	mostCount = 1<<31 - 1
	mostValue = 4096
	mostKey   = 64
	mostPlain = 32
)

func plainMayBe(x api.Item) bool {
	c, p := x.Cell, x.Cell.Point
	if len(x.Key) == 0 || len(x.Key) > mostKey {
		return false
	}
	if c.Far && !x.Dead {
		return len(c.Bytes) == 0 && p.Seg >= 1 && p.Seg <= mostCount && p.At >= 0 && p.At <= mostCount && p.Len >= 0 && p.Len <= mostValue
	}
	if c.Far || p.Seg != 0 || p.At != 0 || p.Len != 0 || p.Sum != 0 {
		return false
	}
	return len(c.Bytes) == 0 || !x.Dead && len(c.Bytes) <= mostPlain
}

// plainBelow holds keys against each other byte by byte.
func plainBelow(a, b string) bool {
	for i := 0; i < len(a) && i < len(b); i++ {
		if a[i] != b[i] {
			return a[i] < b[i]
		}
	}
	return len(a) < len(b)
}

func plainAreLists(l [][]api.Item) bool {
	if len(l) > mostLists {
		return false
	}
	for _, items := range l {
		for i, x := range items {
			if !plainMayBe(x) || i > 0 && !plainBelow(items[i-1].Key, x.Key) {
				return false
			}
		}
	}
	return true
}

func plainSameItem(a, b api.Item) bool {
	return a.Key == b.Key && a.Dead == b.Dead && a.Cell.Far == b.Cell.Far && a.Cell.Point == b.Cell.Point &&
		string(a.Cell.Bytes) == string(b.Cell.Bytes)
}

func plainSame(a, b []api.Item) bool { return slices.EqualFunc(a, b, plainSameItem) }

// told is an item, and from which list it is.
type told struct {
	item api.Item
	from int
}

func plainSameTold(a, b told) bool { return a.from == b.from && plainSameItem(a.item, b.item) }

// plainMerged goes through the lists from the oldest on: of each key the newest one comes last, and stays.
func plainMerged(l [][]api.Item) []told {
	newest := map[string]told{}
	for from, items := range slices.Backward(l) {
		for _, x := range items {
			newest[x.Key] = told{x, from}
		}
	}
	var all []told
	for _, x := range newest {
		all = append(all, x)
	}
	slices.SortFunc(all, func(a, b told) int {
		if plainBelow(a.item.Key, b.item.Key) {
			return -1
		}
		return 1
	})
	return all
}

func plainAll(l [][]api.Item, drop bool) []api.Item {
	var all []api.Item
	for _, x := range plainMerged(l) {
		if !drop || !x.item.Dead {
			all = append(all, x.item)
		}
	}
	return all
}

func plainScan(l [][]api.Item, lo, hi string, most int) []api.Item {
	var some []api.Item
	for _, x := range plainAll(l, true) {
		if len(some) < most && !plainBelow(x.Key, lo) && (hi == "" || plainBelow(x.Key, hi)) {
			some = append(some, x)
		}
	}
	return some
}

func plainGet(l [][]api.Item, key string) (api.Item, bool) {
	for _, x := range plainAll(l, false) {
		if x.Key == key {
			return x, true
		}
	}
	return api.Item{}, false
}

func newSource() *rand.Rand { return rand.New(rand.NewSource(14)) }

func someBytes(r *rand.Rand, n int) []byte {
	b := make([]byte, n)
	r.Read(b)
	return b
}

// someKey is a key that may be, mostly of few letters, so that lists share keys.
func someKey(r *rand.Rand) string {
	if r.Intn(8) == 0 {
		return string(someBytes(r, 1+r.Intn(mostKey)))
	}
	letters := "\x00ab\x7f\x80\xff"
	b := make([]byte, 1+r.Intn(mostKey)>>r.Intn(7))
	for i := range b {
		b[i] = letters[r.Intn(len(letters))]
	}
	return string(b)
}

// someItem is one that may be.
func someItem(r *rand.Rand, key string) api.Item {
	switch r.Intn(3) {
	case 0:
		return api.Item{Key: key, Dead: true}
	case 1:
		return api.Item{Key: key, Cell: api.Cell{Bytes: someBytes(r, r.Intn(mostPlain+1)>>r.Intn(6))}}
	}
	return api.Item{Key: key, Cell: api.Cell{Far: true, Point: api.Point{
		Seg: 1 + r.Intn(mostCount)>>r.Intn(31),
		At:  r.Intn(mostCount) >> r.Intn(31),
		Len: r.Intn(mostValue+1) >> r.Intn(13),
		Sum: r.Uint32() >> r.Intn(32),
	}}}
}

// someItems are in order, n of them at most, with keys of those.
func someItems(r *rand.Rand, keys []string, n int) []api.Item {
	taken := map[string]int{}
	var l []api.Item
	for range n {
		key := keys[r.Intn(len(keys))]
		if taken[key]++; taken[key] == 1 {
			l = append(l, someItem(r, key))
		}
	}
	slices.SortFunc(l, func(a, b api.Item) int {
		if plainBelow(a.Key, b.Key) {
			return -1
		}
		return 1
	})
	return l
}

// someLists are n lists, long and short, whose keys are of few, so that they share some, or of many.
func someLists(r *rand.Rand, n int) [][]api.Item {
	keys := make([]string, 1+r.Intn(60))
	for i := range keys {
		keys[i] = someKey(r)
	}
	l := make([][]api.Item, n)
	for i := range l {
		l[i] = someItems(r, keys, r.Intn(30)>>r.Intn(5))
	}
	return l
}

// wrongItems are items that may not be, each by its own fault.
func wrongItems() []api.Item {
	p := api.Point{Seg: 1, At: 2, Len: 3, Sum: 4}
	l := []api.Item{
		{},
		{Dead: true},
		{Cell: api.Cell{Bytes: []byte{7}}},
		{Cell: api.Cell{Far: true, Point: p}},
		{Key: strings.Repeat("m", mostKey+1)},
		{Key: strings.Repeat("m", mostKey+1), Dead: true},
		{Key: strings.Repeat("m", 1000)},
		{Key: "m", Cell: api.Cell{Bytes: make([]byte, mostPlain+1)}},
		{Key: "m", Cell: api.Cell{Bytes: []byte{7}, Point: p}},
		{Key: "m", Cell: api.Cell{Point: p}},
		{Key: "m", Cell: api.Cell{Point: api.Point{Sum: 1}}},
		{Key: "m", Cell: api.Cell{Far: true}},
		{Key: "m", Cell: api.Cell{Far: true, Bytes: []byte{7}, Point: p}},
		{Key: "m", Dead: true, Cell: api.Cell{Bytes: []byte{0}}},
		{Key: "m", Dead: true, Cell: api.Cell{Bytes: make([]byte, mostPlain)}},
		{Key: "m", Dead: true, Cell: api.Cell{Far: true}},
		{Key: "m", Dead: true, Cell: api.Cell{Far: true, Point: p}},
		{Key: "m", Dead: true, Cell: api.Cell{Point: p}},
		{Key: "m", Dead: true, Cell: api.Cell{Point: api.Point{Sum: 1}}},
		{Key: "m", Cell: api.Cell{Far: true, Point: api.Point{Seg: 1, Len: mostValue + 1}}},
	}
	for _, n := range []int{-1, mostCount + 1} {
		for _, q := range []api.Point{{Seg: n}, {Seg: 1, At: n}, {Seg: 1, Len: n}} {
			l = append(l, api.Item{Key: "m", Cell: api.Cell{Far: true, Point: q}})
		}
	}
	return l
}
