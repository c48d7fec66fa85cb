package tree

import (
	"bytes"
	"math"
	"slices"
	"strconv"
	"strings"
	"testing"

	"garner/api"
)

// treeOf is a tree, and its plain one, of items that may be.
func treeOf(t testing.TB, items ...api.Item) (*Tree, plainTree) {
	t.Helper()
	tree, plain := New(), plainTree{}
	for _, x := range items {
		put(t, tree, &plain, x)
	}
	return tree, plain
}

func put(t testing.TB, tree *Tree, plain *plainTree, x api.Item) {
	t.Helper()
	err, want := tree.Put(x), plain.put(x)
	if err != want {
		t.Fatalf("Put(%v): %d, want %d", x, err, want)
	}
}

func near(key string, b ...byte) api.Item { return api.Item{Key: key, Cell: api.Cell{Bytes: b}} }

func far(key string, seg int) api.Item {
	return api.Item{Key: key, Cell: api.Cell{Far: true, Point: api.Point{Seg: seg, At: 2, Len: 4000, Sum: 4}}}
}

func dead(key string) api.Item { return api.Item{Key: key, Dead: true} }

func nears(keys ...string) []api.Item {
	var l []api.Item
	for _, key := range keys {
		l = append(l, near(key, 7))
	}
	return l
}

// numbered is a key by which numbers are in order.
func numbered(n int) string {
	s := strconv.Itoa(n)
	return strings.Repeat("0", 8-len(s)) + s
}

// The chapter's example.
func TestExample(t *testing.T) {
	tree := New()
	if tree.Put(api.Item{Key: "b"}) != api.OK || tree.Put(api.Item{Key: "a"}) != api.OK {
		t.Fatal("Put")
	}
	l := tree.All()
	if len(l) != 2 || l[0].Key != "a" || l[1].Key != "b" {
		t.Errorf("All: %v", l)
	}
}

// Tr1: items that may be, and that may not be; Put takes just those that may be.
func TestCheckKnown(t *testing.T) {
	for _, x := range rightItems() {
		if err := Check(x); err != api.OK {
			t.Errorf("Check(%v): %d", x, err)
		}
		if err := New().Put(x); err != api.OK {
			t.Errorf("Put(%v): %d", x, err)
		}
	}
	for _, x := range wrongItems() {
		if err := Check(x); err != api.ErrArg {
			t.Errorf("Check(%v): %d", x, err)
		}
		if err := New().Put(x); err != api.ErrArg {
			t.Errorf("Put(%v): %d", x, err)
		}
	}
}

// Tr1: keys of every length, whatever the cell.
func TestCheckOfKeys(t *testing.T) {
	for n := range 200 {
		for _, s := range []string{"\x00", "a", "\xff"} {
			for _, x := range []api.Item{near(""), near("", 7, 8), far("", 1), dead("")} {
				x.Key = strings.Repeat(s, n)
				want := api.OK
				if n < 1 || n > 64 {
					want = api.ErrArg
				}
				if err := Check(x); err != want {
					t.Errorf("Check of a key of %d bytes: %d", n, err)
				}
			}
		}
	}
}

// Tr1: Check as the words say, of items of which most are wrong in one thing.
func TestCheckAsTheWordsSay(t *testing.T) {
	r := newSource()
	seen := map[api.Errno]int{}
	for range 20000 {
		x := someItem(r)
		switch r.Intn(8) {
		case 0:
			x.Key = string(someBytes(r, r.Intn(mostKey+3)))
		case 1:
			x.Dead = !x.Dead
		case 2:
			x.Cell.Far = !x.Cell.Far
		case 3:
			x.Cell.Bytes = make([]byte, r.Intn(mostPlain+3))
		case 4:
			x.Cell.Point = api.Point{Seg: r.Intn(3) - 1, At: r.Intn(3) - 1, Len: mostValue - 1 + r.Intn(3), Sum: uint32(r.Intn(2))}
		case 5:
			x.Cell.Point = api.Point{}
		}
		want := api.OK
		if !plainMayBe(x) {
			want = api.ErrArg
		}
		if err := Check(x); err != want {
			t.Fatalf("Check(%v): %d, want %d", x, err, want)
		}
		seen[want]++
	}
	if seen[api.OK] < 1000 || seen[api.ErrArg] < 1000 {
		t.Errorf("too few of one kind: %v", seen)
	}
}

// Tr1: items in order, and out of it.
func TestSortedKnown(t *testing.T) {
	for _, c := range []struct {
		l    []api.Item
		want bool
	}{
		{nil, true},
		{[]api.Item{}, true},
		{nears("a"), true},
		{nears("a", "b"), true},
		{nears("b", "a"), false},
		{nears("a", "a"), false},
		{[]api.Item{near("a", 1), dead("a")}, false},
		{[]api.Item{dead("a"), near("b", 1), far("c", 1)}, true},
		{nears("a", "c", "b"), false},
		{nears("b", "a", "c"), false},
		{nears("a", "b", "b"), false},
		{nears("a", "b", "a"), false},
		{nears("a", "aa", "ab", "b"), true},
		{nears("aa", "a"), false},
		{nears("a\x00", "a"), false},
		{nears("a", "a\x00"), true},
		{nears("\x00", "\x00\x00", "\x01", "\x7f", "\x80", "\xff", "\xff\x00", "\xff\xff"), true},
		{nears("\x80", "\x7f"), false},
		{nears("\xff", "\x00"), false},
		{nears("A", "a"), true},
		{nears("a", "B"), false},
		{nears("10", "9"), true},
		{nears(strings.Repeat("a", 63), strings.Repeat("a", 64)), true},
		{nears(strings.Repeat("a", 64), strings.Repeat("a", 65)), false},
		{nears("", "a"), false},
		{nears(""), false},
		{[]api.Item{{}}, false},
	} {
		if got := Sorted(c.l); got != c.want {
			t.Errorf("Sorted(%q): %v", keysOf(c.l), got)
		}
	}
}

// Tr1: one item that may not be, wherever it stands.
func TestSortedOfOneWrong(t *testing.T) {
	for _, bad := range wrongItems() {
		if Sorted([]api.Item{bad}) {
			t.Errorf("Sorted of %v alone", bad)
		}
		for at := range 5 {
			l := nears("a", "b", "c", "d", "e")
			x := bad
			if x.Key == "a" {
				x.Key = l[at].Key
			}
			l[at] = x
			if Sorted(l) {
				t.Errorf("Sorted with %v at %d", x, at)
			}
		}
	}
}

// Tr1: Sorted as the words say.
func TestSortedAsTheWordsSay(t *testing.T) {
	r := newSource()
	seen := map[bool]int{}
	for range 10000 {
		_, plain := treeOf(t, someItems(r, r.Intn(8))...)
		l := plain.all()
		if len(l) > 0 && r.Intn(2) == 0 {
			l[r.Intn(len(l))] = someItem(r)
		}
		want := plainSorted(l)
		if got := Sorted(l); got != want {
			t.Fatalf("Sorted(%q): %v", keysOf(l), got)
		}
		seen[want]++
	}
	if seen[true] < 1000 || seen[false] < 1000 {
		t.Errorf("too few of one kind: %v", seen)
	}
}

// Tr1: lists that are alike, and that part in one field, one byte, one item.
func TestSameKnown(t *testing.T) {
	p := api.Point{Seg: 1, At: 2, Len: 3, Sum: 4}
	atPoint := func(p api.Point) []api.Item {
		return []api.Item{{Key: "a", Cell: api.Cell{Far: true, Point: p}}}
	}
	for _, c := range []struct {
		a, b []api.Item
		want bool
	}{
		{nil, nil, true},
		{nil, []api.Item{}, true},
		{nil, []api.Item{{}}, false},
		{[]api.Item{{}}, []api.Item{{}}, true},
		{[]api.Item{{}}, []api.Item{{}, {}}, false},
		{nears("a", "b"), nears("a", "b"), true},
		{nears("a", "b"), nears("a"), false},
		{nears("a", "b"), nears("b"), false},
		{nears("a", "b"), nears("b", "a"), false},
		{nears("a", "b"), nears("a", "c"), false},
		{nears("a", "b"), nears("c", "b"), false},
		{nears("a", "b"), nears("a", "b", "c"), false},
		{nears("a"), nears("A"), false},
		{nears("a"), nears("a\x00"), false},
		{nears(""), nears(""), true},
		{[]api.Item{near("a")}, []api.Item{dead("a")}, false},
		{[]api.Item{near("a")}, []api.Item{{Key: "a", Cell: api.Cell{Bytes: []byte{}}}}, true},
		{[]api.Item{near("a", 7, 8)}, []api.Item{near("a", 7, 8)}, true},
		{[]api.Item{near("a", 7, 8)}, []api.Item{near("a", 7, 9)}, false},
		{[]api.Item{near("a", 7, 8)}, []api.Item{near("a", 6, 8)}, false},
		{[]api.Item{near("a", 7, 8)}, []api.Item{near("a", 7)}, false},
		{[]api.Item{near("a", 7, 8)}, []api.Item{near("a", 7, 8, 0)}, false},
		{[]api.Item{near("a", 7), near("b", 8)}, []api.Item{near("a", 8), near("b", 7)}, false},
		{[]api.Item{near("a", 7), near("b", 8)}, []api.Item{near("a", 7), near("b", 9)}, false},
		{[]api.Item{near("a", 0)}, []api.Item{near("a")}, false},
		{[]api.Item{near("a")}, []api.Item{{Key: "a", Cell: api.Cell{Far: true}}}, false},
		{atPoint(p), atPoint(p), true},
		{atPoint(p), atPoint(api.Point{Seg: 2, At: 2, Len: 3, Sum: 4}), false},
		{atPoint(p), atPoint(api.Point{Seg: 1, At: 3, Len: 3, Sum: 4}), false},
		{atPoint(p), atPoint(api.Point{Seg: 1, At: 2, Len: 4, Sum: 4}), false},
		{atPoint(p), atPoint(api.Point{Seg: 1, At: 2, Len: 3, Sum: 5}), false},
		{atPoint(p), []api.Item{{Key: "a", Cell: api.Cell{Point: p}}}, false},
		{wrongItems(), wrongItems(), true},
		{rightItems(), rightItems(), true},
		{rightItems(), wrongItems(), false},
	} {
		if Same(c.a, c.b) != c.want || Same(c.b, c.a) != c.want {
			t.Errorf("Same(%v, %v) is not %v both ways", c.a, c.b, c.want)
		}
	}
}

// Tr1: Same as the words say, of lists that part in few things, or in none.
func TestSameAsTheWordsSay(t *testing.T) {
	r := newSource()
	few := func() []api.Item {
		l := make([]api.Item, r.Intn(3))
		for i := range l {
			l[i] = api.Item{
				Key:  string(make([]byte, r.Intn(2))),
				Dead: r.Intn(2) == 0,
				Cell: api.Cell{Bytes: make([]byte, r.Intn(2)), Point: api.Point{Sum: uint32(r.Intn(2))}},
			}
		}
		return l
	}
	alike := 0
	for range 20000 {
		a, b := few(), few()
		want := plainSame(a, b)
		if Same(a, b) != want {
			t.Fatalf("Same(%v, %v) is not %v", a, b, want)
		}
		if want {
			alike++
		}
	}
	if alike < 1000 || alike > 19000 {
		t.Errorf("%d were alike", alike)
	}
}

// Tr1: a tree without items.
func TestNew(t *testing.T) {
	tree := New()
	checkTree(t, "New", tree, nil)
	if tree == nil || tree.All() != nil || tree.Scan("", "", 9) != nil {
		t.Error("New has items")
	}
	if x, found := tree.Get("a"); found || !plainSameItem(x, api.Item{}) {
		t.Errorf("Get: %v, %v", x, found)
	}
	if x, found := tree.Get(""); found || !plainSameItem(x, api.Item{}) {
		t.Errorf("Get of no key: %v, %v", x, found)
	}
	tree.Put(near("a"))
	checkTree(t, "New beside another one", New(), nil)
}

// Tr1: Put of a key ahead of all, between, behind all, and of one that is there.
func TestPutKnown(t *testing.T) {
	base := []api.Item{near("d", 1), dead("b"), far("f", 3)}
	for _, c := range []struct {
		what   string
		x      api.Item
		keys   string
		weight int
	}{
		{"ahead of all", near("a"), "abdf", 69},
		{"between", near("c", 1, 2), "bcdf", 71},
		{"behind all", far("g", 1), "bdfg", 69},
		{"one that was near, now longer", near("d", 1, 2, 3), "bdf", 54},
		{"one that was near, now empty", near("d"), "bdf", 51},
		{"one that was near, now dead", dead("d"), "bdf", 51},
		{"one that was near, now far", far("d", 9), "bdf", 51},
		{"one that was dead, now near", near("b", 1, 2, 3, 4), "bdf", 56},
		{"one that was dead, now far", far("b", 9), "bdf", 52},
		{"one that was far, now near", near("f", 1), "bdf", 53},
		{"one that was far, now dead", dead("f"), "bdf", 52},
		{"one that is just so already", near("d", 1), "bdf", 52},
	} {
		tree, plain := treeOf(t, base...)
		put(t, tree, &plain, c.x)
		checkTree(t, c.what, tree, plain)
		keys := strings.Join(keysOf(tree.All()), "")
		if keys != c.keys || tree.Len() != len(c.keys) || tree.Weight() != c.weight {
			t.Errorf("%s: %s, Len %d, Weight %d", c.what, keys, tree.Len(), tree.Weight())
		}
		if x, found := tree.Get(c.x.Key); !found || !plainSameItem(x, c.x) {
			t.Errorf("%s: Get: %v, %v", c.what, x, found)
		}
	}
}

// Tr1: Put that is refused leaves all as it was, also where its key is there.
func TestPutRefused(t *testing.T) {
	tree, plain := treeOf(t, near("a", 7), dead("b"), far("c", 1))
	for _, x := range wrongItems() {
		if err := tree.Put(x); err != api.ErrArg {
			t.Errorf("Put(%v): %d", x, err)
		}
		checkTree(t, "refused", tree, plain)
	}
}

// Tr1: what items weigh: the key's bytes, and 16, and the cell's Bytes.
func TestWeightKnown(t *testing.T) {
	for _, c := range []struct {
		l    []api.Item
		want int
	}{
		{nil, 0},
		{[]api.Item{near("a")}, 17},
		{[]api.Item{near("a", 1)}, 18},
		{[]api.Item{near("abc", 1, 2)}, 21},
		{[]api.Item{dead("a")}, 17},
		{[]api.Item{far("a", 1)}, 17},
		{[]api.Item{near(strings.Repeat("k", 64), make([]byte, 32)...)}, 112},
		{[]api.Item{near("a"), near("b", 1), dead("cc"), far("ddd", 1)}, 72},
		{[]api.Item{near("a", 1, 2, 3), near("a"), near("a", 1)}, 18},
	} {
		tree, _ := treeOf(t, c.l...)
		if got := tree.Weight(); got != c.want {
			t.Errorf("Weight of %v: %d, want %d", c.l, got, c.want)
		}
	}
}

// Tr1: Get of keys that are there, Dead ones too, and of ones that are not.
func TestGetKnown(t *testing.T) {
	items := []api.Item{near("m", 1), dead("d"), far("f", 2), near("mm", 3), near("\x00", 4), near("\xff", 5), near(strings.Repeat("z", 64), 6)}
	tree, _ := treeOf(t, items...)
	for _, want := range items {
		if x, found := tree.Get(want.Key); !found || !plainSameItem(x, want) {
			t.Errorf("Get(%q): %v, %v", want.Key, x, found)
		}
	}
	for _, key := range []string{"", "M", "l", "n", "mmm", "m\x00", "\x00\x00", "\xff\xff", "\x01", "\xfe", strings.Repeat("z", 63), strings.Repeat("z", 65), strings.Repeat("z", 1000)} {
		x, found := tree.Get(key)
		if found || !plainSameItem(x, api.Item{}) || x.Cell.Bytes != nil {
			t.Errorf("Get(%q): %v, %v", key, x, found)
		}
	}
}

// Tr1: all that may be, put one by one, is there.
func TestPutOfAllKinds(t *testing.T) {
	tree, plain := treeOf(t, rightItems()...)
	checkTree(t, "all kinds", tree, plain)
}

// Tr2: Scan of ranges that are known, also of lo at hi and beyond it.
func TestScanKnown(t *testing.T) {
	tree, _ := treeOf(t, near("d", 1), dead("b"), far("f", 3), near("dd", 4), near("a\xff", 5))
	for _, c := range []struct {
		lo, hi string
		most   int
		want   string
	}{
		{"", "", 9, "a\xff b d dd f"},
		{"b", "f", 9, "b d dd"},
		{"b", "", 9, "b d dd f"},
		{"", "d", 9, "a\xff b"},
		{"b", "b\x00", 9, "b"},
		{"b\x00", "d", 9, ""},
		{"c", "e", 9, "d dd"},
		{"a", "a\xff", 9, ""},
		{"a", "a\xff\x00", 9, "a\xff"},
		{"d", "dd", 9, "d"},
		{"d", "dd\x00", 9, "d dd"},
		{"d\x00", "z", 9, "dd f"},
		{"f", "", 9, "f"},
		{"f\x00", "", 9, ""},
		{"g", "z", 9, ""},
		{"", "a", 9, ""},
		{"", "\x00", 9, ""},
		{"\xff", "", 9, ""},
		{"", "\xff", 9, "a\xff b d dd f"},
		{"d", "d", 9, ""},
		{"f", "b", 9, ""},
		{"z", "a", 9, ""},
		{"b\x00", "b", 9, ""},
		{"", "", 5, "a\xff b d dd f"},
		{"", "", 6, "a\xff b d dd f"},
		{"", "", 4, "a\xff b d dd"},
		{"", "", 2, "a\xff b"},
		{"", "", 1, "a\xff"},
		{"", "", 0, ""},
		{"", "", -1, ""},
		{"", "", math.MinInt, ""},
		{"", "", math.MaxInt, "a\xff b d dd f"},
		{"b", "f", 3, "b d dd"},
		{"b", "f", 2, "b d"},
		{"b", "f", 1, "b"},
		{"b", "f", 0, ""},
		{"c", "", 1, "d"},
		{strings.Repeat("a", 1000), strings.Repeat("e", 1000), 9, "a\xff b d dd"},
	} {
		l := tree.Scan(c.lo, c.hi, c.most)
		if got := strings.Join(keysOf(l), " "); got != c.want {
			t.Errorf("Scan(%q, %q, %d): %q, want %q", c.lo, c.hi, c.most, got, c.want)
		}
		for _, x := range l {
			if y, _ := tree.Get(x.Key); !plainSameItem(x, y) {
				t.Errorf("Scan(%q, %q, %d): %v is not %v", c.lo, c.hi, c.most, x, y)
			}
		}
	}
}

// Tr2: Scan as the words say, of trees great and small, from and to keys that are there, and beside them.
func TestScanAsTheWordsSay(t *testing.T) {
	r := newSource()
	for range 300 {
		tree, plain := treeOf(t, someItems(r, r.Intn(60))...)
		all := plain.all()
		end := func() string {
			if len(all) == 0 || r.Intn(4) == 0 {
				return someKey(r)[r.Intn(2):]
			}
			key := all[r.Intn(len(all))].Key
			return []string{key, key + "\x00", key[:len(key)-1], ""}[r.Intn(4)]
		}
		for range 40 {
			lo, hi, most := end(), end(), r.Intn(len(all)+4)-1
			if r.Intn(3) == 0 {
				most = math.MaxInt
			}
			got, want := tree.Scan(lo, hi, most), plain.scan(lo, hi, most)
			if !plainSame(got, want) {
				t.Fatalf("Scan(%q, %q, %d): %q, want %q", lo, hi, most, keysOf(got), keysOf(want))
			}
		}
	}
}

// Tr2: of as many keys as there are, every range, and every most.
func TestScanOfEveryRange(t *testing.T) {
	const n = 20
	tree := New()
	for i := range n {
		tree.Put(near(numbered(2*(i*7%n)), byte(i)))
	}
	for lo := range 2*n + 2 {
		for hi := range 2*n + 2 {
			first, end := (lo+1)/2, min((hi+1)/2, n)
			for most := range n + 2 {
				l := tree.Scan(numbered(lo), numbered(hi), most)
				if len(l) != max(0, min(end-first, most)) {
					t.Fatalf("Scan from %d to %d of %d: %d", lo, hi, most, len(l))
				}
				for i, x := range l {
					if x.Key != numbered(2*(first+i)) {
						t.Fatalf("Scan from %d to %d of %d: %q at %d", lo, hi, most, x.Key, i)
					}
				}
			}
		}
	}
}

// Tr2: puts into the one do not turn the other, in both ways.
func TestCloneKnown(t *testing.T) {
	a, plainA := treeOf(t, near("b", 1), dead("d"), far("f", 3))
	b, plainB := a.Clone(), slices.Clone(plainA)
	if a == b {
		t.Fatal("Clone is the tree itself")
	}
	checkTree(t, "a clone", b, plainB)
	for _, x := range []api.Item{near("a", 1), near("b", 9), near("d", 5), dead("f"), near("z", 1)} {
		put(t, a, &plainA, x)
		checkTree(t, "the one that is put into", a, plainA)
		checkTree(t, "its clone", b, plainB)
	}
	for _, x := range []api.Item{far("c", 1), near("b", 4, 4), far("d", 6), near("f"), near("y", 1)} {
		put(t, b, &plainB, x)
		checkTree(t, "the clone that is put into", b, plainB)
		checkTree(t, "what it is a clone of", a, plainA)
	}
}

// Tr2: a clone of nothing, and clones of clones.
func TestCloneOfNothing(t *testing.T) {
	a := New()
	b := a.Clone()
	c := b.Clone()
	for i, tree := range []*Tree{a, b, c} {
		checkTree(t, "a clone of nothing", tree, nil)
		if err := tree.Put(near(numbered(i), 1)); err != api.OK {
			t.Fatalf("Put: %d", err)
		}
	}
	for i, tree := range []*Tree{a, b, c} {
		checkTree(t, "a clone put into", tree, plainTree{near(numbered(i), 1)})
	}
}

// Tr1, Tr2: many plays of puts, right and wrong, and clones, each tree as its own puts say.
func TestPlays(t *testing.T) {
	r := newSource()
	wrong := wrongItems()
	for range 60 {
		trees, plains := []*Tree{New()}, []plainTree{nil}
		for range 120 {
			i := r.Intn(len(trees))
			switch r.Intn(8) {
			case 0:
				if len(trees) < 4 {
					trees, plains = append(trees, trees[i].Clone()), append(plains, slices.Clone(plains[i]))
				}
			case 1:
				put(t, trees[i], &plains[i], wrong[r.Intn(len(wrong))])
			default:
				put(t, trees[i], &plains[i], someItem(r))
			}
			if r.Intn(10) == 0 {
				i = r.Intn(len(trees))
				checkTree(t, "within a play", trees[i], plains[i])
			}
		}
		for i := range trees {
			checkTree(t, "behind a play", trees[i], plains[i])
		}
	}
}

// Tr3: every order of few unlike keys is the same.
func TestEveryOrder(t *testing.T) {
	items := []api.Item{near("a", 1), dead("b"), far("c", 2), near("d"), near("e", 5), far("f", 6), dead("g")}
	var turn func(done, rest []api.Item)
	turn = func(done, rest []api.Item) {
		if len(rest) == 0 {
			tree, plain := treeOf(t, done...)
			if !plainSame(tree.All(), items) {
				t.Fatalf("put as %q: %q", keysOf(done), keysOf(tree.All()))
			}
			checkTree(t, "an order", tree, plain)
		}
		for i, x := range rest {
			turn(append(slices.Clone(done), x), slices.Concat(rest[:i], rest[i+1:]))
		}
	}
	turn(nil, items)
}

// Tr3: in which order items of unlike keys are put does not matter; of one key the last one counts.
func TestOrderDoesNotMatter(t *testing.T) {
	r := newSource()
	for range 200 {
		items := someItems(r, r.Intn(50))
		tree, plain := treeOf(t, items...)
		last := plain.all()
		r.Shuffle(len(last), func(i, j int) { last[i], last[j] = last[j], last[i] })
		again := New()
		for _, x := range last {
			// What is put ahead of the last one of a key must not be seen.
			for range r.Intn(3) {
				old := someItem(r)
				old.Key = x.Key
				again.Put(old)
			}
			again.Put(x)
		}
		if !plainSame(tree.All(), again.All()) || tree.Len() != again.Len() || tree.Weight() != again.Weight() {
			t.Fatalf("%q and %q", keysOf(tree.All()), keysOf(again.All()))
		}
		checkTree(t, "another order", again, last)
	}
}

// R1: of a Tree that New did not give: ErrArg, nothing.
func TestNobodysTree(t *testing.T) {
	var none *Tree
	for _, tree := range []*Tree{none, {}, new(Tree)} {
		for range 2 {
			if err := tree.Put(near("a", 1)); err != api.ErrArg {
				t.Errorf("Put: %d", err)
			}
			if err := tree.Put(api.Item{}); err != api.ErrArg {
				t.Errorf("Put of what may not be: %d", err)
			}
			if x, found := tree.Get("a"); found || !plainSameItem(x, api.Item{}) {
				t.Errorf("Get: %v, %v", x, found)
			}
			if tree.Scan("", "", 9) != nil || tree.Scan("a", "b", math.MaxInt) != nil || tree.All() != nil {
				t.Error("items of nobody's tree")
			}
			if tree.Len() != 0 || tree.Weight() != 0 {
				t.Errorf("Len %d, Weight %d", tree.Len(), tree.Weight())
			}
			if c := tree.Clone(); c != nil {
				t.Errorf("Clone: %v", c)
			}
		}
	}
}

// withTail is bytes with others behind them that must not be written either.
func withTail(b []byte) (part, whole []byte) {
	whole = append(slices.Clone(b), 201, 202, 203)
	return whole[:len(b)], whole
}

// spoil turns all that can be reached from items.
func spoil(l []api.Item) {
	for i := range l {
		b := l[i].Cell.Bytes
		for j := range b[:cap(b)] {
			b[:cap(b)][j] ^= 255
		}
		l[i] = api.Item{Key: "spoilt", Dead: true}
	}
	clear(l[:cap(l)])
}

// R3: no call writes to what it is handed, nor behind its end.
func TestNothingIsWritten(t *testing.T) {
	r := newSource()
	for range 300 {
		part, whole := withTail(someBytes(r, r.Intn(mostPlain+2)))
		kept := slices.Clone(whole)
		x := api.Item{Key: someKey(r), Cell: api.Cell{Bytes: part}}
		l := append(make([]api.Item, 0, 4), someItem(r), x)
		before := slices.Clone(l[:cap(l)])
		tree := New()
		Check(x)
		Sorted(l)
		Same(l, l)
		for _, y := range l {
			tree.Put(y)
			tree.Put(y)
		}
		spoil(tree.All())
		if !bytes.Equal(whole, kept) || !plainSame(l[:cap(l)], before) {
			t.Fatal("a call wrote to what it was handed")
		}
	}
}

// R3: what is handed in may be written afterwards without turning the tree.
func TestPutKeepsNothing(t *testing.T) {
	for _, value := range [][]byte{{7, 8}, {7}, make([]byte, mostPlain), {}} {
		part, whole := withTail(value)
		key := []byte("key")
		tree, plain := treeOf(t, api.Item{Key: string(key), Cell: api.Cell{Bytes: part}})
		clone := tree.Clone()
		for i := range whole {
			whole[i] ^= 255
		}
		key[0] = 'x'
		checkTree(t, "written behind Put", tree, plain)
		checkTree(t, "its clone", clone, plain)
	}
}

// R3: what is answered is new memory, bytes of cells too; a tree and its clone are not turned by it.
func TestAnswersAreNew(t *testing.T) {
	r := newSource()
	for range 50 {
		tree, plain := treeOf(t, append(someItems(r, r.Intn(30)), near("a", 1, 2), near("b", 3))...)
		clone := tree.Clone()
		for _, ask := range []func() []api.Item{
			tree.All,
			func() []api.Item { return tree.Scan("a", "", 9) },
			func() []api.Item { return tree.Scan("", "", math.MaxInt) },
			func() []api.Item { x, _ := tree.Get("a"); return []api.Item{x} },
			clone.All,
			func() []api.Item { x, _ := clone.Get("b"); return []api.Item{x} },
		} {
			first, second := ask(), ask()
			want := plainCopy(second)
			spoil(first)
			if !plainSame(second, want) {
				t.Fatal("two answers share memory")
			}
			checkTree(t, "behind a spoilt answer", tree, plain)
			checkTree(t, "its clone", clone, plain)
		}
	}
}

// R3: no two items of one answer share memory.
func TestItemsAreApart(t *testing.T) {
	shared := []byte{1, 2, 3}
	tree, _ := treeOf(t, near("a", shared...), near("b", shared...), near("c", shared[:2]...))
	for _, l := range [][]api.Item{tree.All(), tree.Scan("a", "z", 9)} {
		spoil(l[:1:1])
		if !plainSame(l[1:], []api.Item{near("b", 1, 2, 3), near("c", 1, 2)}) {
			t.Errorf("items share memory: %v", l)
		}
	}
}

func plainCopy(l []api.Item) []api.Item {
	l = slices.Clone(l)
	for i := range l {
		l[i].Cell.Bytes = slices.Clone(l[i].Cell.Bytes)
	}
	return l
}

// R4: the same answers, again and again, whatever else is asked in between.
func TestSameAgain(t *testing.T) {
	r := newSource()
	for range 100 {
		items := someItems(r, r.Intn(40))
		a, _ := treeOf(t, items...)
		b, _ := treeOf(t, plainCopy(items)...)
		for range 20 {
			lo, hi, most := someKey(r), someKey(r), r.Intn(20)
			first := a.Scan(lo, hi, most)
			a.Get(someKey(r))
			a.Clone().Put(someItem(r))
			if !plainSame(first, a.Scan(lo, hi, most)) || !plainSame(first, b.Scan(lo, hi, most)) {
				t.Fatalf("Scan(%q, %q, %d) answers otherwise", lo, hi, most)
			}
		}
		if !plainSame(a.All(), b.All()) || a.Weight() != b.Weight() || a.Len() != b.Len() {
			t.Fatal("two trees of the same puts answer otherwise")
		}
	}
}

// R5: an empty list and no list are the same.
func TestNoListIsAnEmptyList(t *testing.T) {
	empty := api.Cell{Bytes: []byte{}}
	for _, x := range []api.Item{{Key: "a"}, {Key: "a", Dead: true}, far("a", 1)} {
		y := x
		y.Cell.Bytes = make([]byte, 0, 4)
		if Check(x) != api.OK || Check(y) != api.OK || !Same([]api.Item{x}, []api.Item{y}) {
			t.Errorf("%v with no bytes, or empty ones, are not the same", x)
		}
		a, _ := treeOf(t, x)
		b, _ := treeOf(t, y)
		if !Same(a.All(), b.All()) || a.Weight() != b.Weight() {
			t.Errorf("trees of %v with no bytes, or empty ones, are not the same", x)
		}
	}
	if !Sorted(nil) || !Sorted([]api.Item{}) || !Same(nil, []api.Item{}) || !Same([]api.Item{}, nil) {
		t.Error("no list is not the same as an empty one")
	}
	if Check(api.Item{Cell: empty}) != api.ErrArg {
		t.Error("an item without a key may be")
	}
}

// P1: every call ends and none panics, at all arguments.
func TestNonePanics(t *testing.T) {
	r := newSource()
	keys := []string{"", "a", "\x00", "\xff", strings.Repeat("k", 64), strings.Repeat("k", 65), strings.Repeat("\xff", 100000)}
	counts := []int{math.MinInt, -1, 0, 1, 2, mostCount, math.MaxInt}
	items := append(wrongItems(), rightItems()...)
	full, _ := treeOf(t, someItems(r, 100)...)
	for _, tree := range []*Tree{nil, {}, New(), full} {
		for _, x := range items {
			Check(x)
			Sorted([]api.Item{x, x})
			Same([]api.Item{x}, items)
			tree.Put(x)
		}
		for _, lo := range keys {
			tree.Get(lo)
			for _, hi := range keys {
				for _, most := range counts {
					if l := tree.Scan(lo, hi, most); !Sorted(l) || len(l) > max(most, 0) {
						t.Fatalf("Scan: %q", keysOf(l))
					}
				}
			}
		}
		tree.All()
		tree.Len()
		tree.Weight()
		tree.Clone()
	}
}

// Tr1, Tr2: many items, rising, falling, from both ends and from within; the tree stays low.
func TestManyItems(t *testing.T) {
	const n = 30000
	for what, key := range map[string]func(i int) int{
		"rising":    func(i int) int { return i },
		"falling":   func(i int) int { return n - 1 - i },
		"scattered": func(i int) int { return i * 7919 % n },
		"from both ends": func(i int) int {
			if i%2 == 0 {
				return i / 2
			}
			return n - 1 - i/2
		},
		"from within": func(i int) int {
			if i%2 == 0 {
				return n/2 + i/2
			}
			return n/2 - 1 - i/2
		},
	} {
		tree := New()
		for i := range n {
			if err := tree.Put(near(numbered(key(i)), byte(i))); err != api.OK {
				t.Fatalf("%s: Put: %d", what, err)
			}
		}
		all := tree.All()
		if len(all) != n || !Sorted(all) || tree.Len() != n || tree.Weight() != 25*n {
			t.Errorf("%s: %d items, Len %d, Weight %d", what, len(all), tree.Len(), tree.Weight())
		}
		if high := checkLow(t, tree.root); high > 21 {
			t.Errorf("%s: %d high", what, high)
		}
		if l := tree.Scan(numbered(n/2), "", 2); !slices.Equal(keysOf(l), []string{numbered(n / 2), numbered(n/2 + 1)}) {
			t.Errorf("%s: Scan: %q", what, keysOf(l))
		}
	}
}

func BenchmarkPut(b *testing.B) {
	tree := New()
	i := 0
	for b.Loop() {
		tree.Put(near(numbered(i*7919%100000), 1, 2, 3))
		i++
	}
}

func BenchmarkGet(b *testing.B) {
	tree := New()
	for i := range 16384 {
		tree.Put(near(numbered(i), 1, 2, 3))
	}
	i := 0
	for b.Loop() {
		tree.Get(numbered(i % 16384))
		i++
	}
}

func BenchmarkAll(b *testing.B) {
	tree := New()
	for i := range 16384 {
		tree.Put(near(numbered(i), 1, 2, 3))
	}
	for b.Loop() {
		tree.All()
	}
}
