package merge

import (
	"math"
	"slices"
	"strconv"
	"strings"
	"testing"

	"garner/api"
)

func near(key string, b ...byte) api.Item { return api.Item{Key: key, Cell: api.Cell{Bytes: b}} }

func far(key string, seg int) api.Item {
	return api.Item{Key: key, Cell: api.Cell{Far: true, Point: api.Point{Seg: seg, At: 2, Len: 3, Sum: 4}}}
}

func dead(key string) api.Item { return api.Item{Key: key, Dead: true} }

// list is items of keys of one letter each, all with the same byte.
func list(keys string, b byte) []api.Item {
	var l []api.Item
	for _, key := range strings.Split(keys, "") {
		l = append(l, near(key, b))
	}
	return l
}

// numbered is a key by which numbers are in order.
func numbered(n int) string {
	s := strconv.Itoa(n)
	return strings.Repeat("0", 8-len(s)) + s
}

func isZero(x api.Item) bool {
	return x.Key == "" && !x.Dead && !x.Cell.Far && x.Cell.Bytes == nil && x.Cell.Point == api.Point{}
}

// moreKeys are those of the lists, those close to them, and some that none has.
func moreKeys(l [][]api.Item) []string {
	keys := []string{"", "\x00", "m", "\xff", strings.Repeat("\xff", mostKey), strings.Repeat("x", mostKey+1), strings.Repeat("a", 5000)}
	for _, items := range l {
		for _, x := range items {
			keys = append(keys, x.Key, x.Key+"\x00", x.Key[:len(x.Key)-1])
		}
	}
	slices.Sort(keys)
	return slices.Compact(keys)
}

func checkAll(t *testing.T, l [][]api.Item) {
	t.Helper()
	for _, drop := range []bool{false, true} {
		want := plainAll(l, drop)
		if got, err := All(l, drop); err != api.OK || !plainSame(got, want) {
			t.Fatalf("All(%v, %v): %v, %d; want %v", l, drop, got, err, want)
		}
	}
}

func checkScan(t *testing.T, l [][]api.Item, lo, hi string, most int) {
	t.Helper()
	want := plainScan(l, lo, hi, most)
	if got, err := Scan(l, lo, hi, most); err != api.OK || !plainSame(got, want) {
		t.Fatalf("Scan(%v, %q, %q, %d): %v, %d; want %v", l, lo, hi, most, got, err, want)
	}
}

func checkGet(t *testing.T, l [][]api.Item, key string) {
	t.Helper()
	want, there := plainGet(l, key)
	x, found, err := Get(l, key)
	if err != api.OK || found != there || !plainSameItem(x, want) || !there && !isZero(x) {
		t.Fatalf("Get(%v, %q): %v, %v, %d; want %v, %v", l, key, x, found, err, want, there)
	}
}

func mustBegin(t *testing.T, l [][]api.Item) *Walk {
	t.Helper()
	w, err := Begin(l)
	if err != api.OK || w == nil {
		t.Fatalf("Begin(%v): %v, %d", l, w != nil, err)
	}
	return w
}

func checkNext(t *testing.T, w *Walk, want told) {
	t.Helper()
	x, from, ok := w.Next()
	if !ok || !plainSameTold(told{x, from}, want) {
		t.Fatalf("Next: %v, %d, %v; want %v, %d", x, from, ok, want.item, want.from)
	}
}

func checkEnd(t *testing.T, w *Walk) {
	t.Helper()
	for range 5 {
		if x, from, ok := w.Next(); ok || from != 0 || !isZero(x) {
			t.Fatalf("Next at the end: %v, %d, %v", x, from, ok)
		}
	}
}

func checkWalk(t *testing.T, l [][]api.Item) {
	t.Helper()
	w := mustBegin(t, l)
	for _, x := range plainMerged(l) {
		checkNext(t, w, x)
	}
	checkEnd(t, w)
}

// checkLists asks for everything of a few lists.
func checkLists(t *testing.T, l [][]api.Item) {
	t.Helper()
	checkAll(t, l)
	checkWalk(t, l)
	keys := moreKeys(l)
	for i, key := range keys {
		checkGet(t, l, key)
		other := keys[i*7%len(keys)]
		for _, most := range []int{-1, 0, 1, 2, 5, len(keys)} {
			checkScan(t, l, key, other, most)
			checkScan(t, l, key, "", most)
			checkScan(t, l, "", key, most)
		}
	}
}

// checkRefused asks that they are no lists, whatever is asked of them.
func checkRefused(t *testing.T, l [][]api.Item) {
	t.Helper()
	for _, drop := range []bool{false, true} {
		if got, err := All(l, drop); err != api.ErrArg || len(got) != 0 {
			t.Fatalf("All(%v, %v): %v, %d", l, drop, got, err)
		}
	}
	for _, most := range []int{math.MinInt, -1, 0, 1, math.MaxInt} {
		for _, ends := range [][2]string{{"", ""}, {"a", "b"}, {"b", "a"}, {"", "\x00"}, {"\xff", ""}} {
			if got, err := Scan(l, ends[0], ends[1], most); err != api.ErrArg || len(got) != 0 {
				t.Fatalf("Scan(%v, %q, %q, %d): %v, %d", l, ends[0], ends[1], most, got, err)
			}
		}
	}
	for _, key := range append(firstKeys(l), "", "a", "m") {
		if x, found, err := Get(l, key); err != api.ErrArg || found || !isZero(x) {
			t.Fatalf("Get(%v, %q): %v, %v, %d", l, key, x, found, err)
		}
	}
	w, err := Begin(l)
	if err != api.ErrArg || w != nil {
		t.Fatalf("Begin(%v): %v, %d", l, w != nil, err)
	}
	checkEnd(t, w)
}

// firstKeys are the first key of each list, also of such as may be none.
func firstKeys(l [][]api.Item) []string {
	var keys []string
	for _, items := range l {
		if len(items) > 0 {
			keys = append(keys, items[0].Key)
		}
	}
	slices.Sort(keys)
	return slices.Compact(keys)
}

// The chapter's example.
func TestExample(t *testing.T) {
	l := [][]api.Item{{dead("a")}, list("ab", 7)}
	if got, err := All(l, true); err != api.OK || len(got) != 1 || !plainSameItem(got[0], near("b", 7)) {
		t.Errorf("without the dead: %v, %d", got, err)
	}
	if got, err := All(l, false); err != api.OK || len(got) != 2 || !got[0].Dead || got[0].Key != "a" || got[1].Key != "b" {
		t.Errorf("with the dead: %v, %d", got, err)
	}
}

// Mg1, Mg2, R5: no lists at all, and lists that are empty, or none: nothing, and no error.
func TestNoLists(t *testing.T) {
	for _, l := range [][][]api.Item{
		nil, {}, make([][]api.Item, 0, 5), {nil}, {{}}, {nil, nil}, {{}, {}}, {nil, {}, nil}, make([][]api.Item, mostLists),
	} {
		for _, drop := range []bool{false, true} {
			if got, err := All(l, drop); err != api.OK || len(got) != 0 {
				t.Errorf("All(%v): %v, %d", l, got, err)
			}
		}
		if got, err := Scan(l, "", "", 9); err != api.OK || len(got) != 0 {
			t.Errorf("Scan(%v): %v, %d", l, got, err)
		}
		for _, key := range []string{"", "a"} {
			if x, found, err := Get(l, key); err != api.OK || found || !isZero(x) {
				t.Errorf("Get(%v, %q): %v, %v, %d", l, key, x, found, err)
			}
		}
		checkEnd(t, mustBegin(t, l))
		checkLists(t, l)
	}
}

// R5: empty lists among others, or none there, turn nothing but the numbers of the lists; empty Bytes, or none, are the same.
func TestEmptyLists(t *testing.T) {
	a, b := []api.Item{near("a", 1), dead("c")}, []api.Item{near("a", 2), near("b", 2), near("c", 2)}
	for _, empty := range [][]api.Item{nil, {}, make([]api.Item, 0, 3)} {
		for _, l := range [][][]api.Item{{empty, a, b}, {a, empty, b}, {a, b, empty}, {empty, a, empty, b, empty}} {
			got, err := All(l, false)
			if err != api.OK || !plainSame(got, []api.Item{near("a", 1), near("b", 2), dead("c")}) {
				t.Errorf("All(%v): %v, %d", l, got, err)
			}
			checkLists(t, l)
		}
	}
	for _, isDead := range []bool{false, true} {
		with := [][]api.Item{{{Key: "k", Dead: isDead, Cell: api.Cell{Bytes: []byte{}}}}}
		without := [][]api.Item{{{Key: "k", Dead: isDead}}}
		checkLists(t, with)
		x, _ := All(with, false)
		y, _ := All(without, false)
		if len(x) != 1 || !plainSame(x, y) {
			t.Errorf("empty Bytes: %v; none: %v", x, y)
		}
	}
}

// Mg1, Mg2: one list: itself.
func TestOneList(t *testing.T) {
	for n := range 20 {
		var l []api.Item
		for i := range n {
			l = append(l, []api.Item{near(numbered(i), byte(i)), far(numbered(i), 1+i), dead(numbered(i))}[i%3])
		}
		if got, err := All([][]api.Item{l}, false); err != api.OK || !plainSame(got, l) {
			t.Errorf("All: %v, %d; want %v", got, err, l)
		}
		checkLists(t, [][]api.Item{l})
	}
}

// Mg1, Mg2: every number of lists: up to 100 they are lists, above that not, whatever is in them.
func TestByNumberOfLists(t *testing.T) {
	for n := range 2*mostLists + 9 {
		shared, apart, empty := make([][]api.Item, n), make([][]api.Item, n), make([][]api.Item, n)
		for i := range n {
			shared[i] = []api.Item{far(numbered(i/2)+"x", 1+i), near("all", byte(i))}
			apart[i] = []api.Item{near(numbered(n-i), byte(i))}
		}
		for _, l := range [][][]api.Item{shared, apart, empty} {
			if n > mostLists {
				checkRefused(t, l)
				continue
			}
			checkAll(t, l)
			checkWalk(t, l)
			checkScan(t, l, "", "", n)
			checkScan(t, l, numbered(3), numbered(40), 20)
			for i := range n + 1 {
				checkGet(t, l, numbered(i))
				checkGet(t, l, numbered(i)+"x")
			}
			checkGet(t, l, "all")
		}
	}
	checkRefused(t, make([][]api.Item, 100000))
}

// Mg1, Mg2: a list that is not in order, or has a key twice, whichever it is, and wherever in it.
func TestNotInOrder(t *testing.T) {
	right := list("bdfhj", 1)
	lists := func(n, i int, wrong []api.Item) [][]api.Item {
		l := make([][]api.Item, n)
		for k := range l {
			l[k] = list("acdegjk", byte(k))
		}
		l[i] = wrong
		return l
	}
	for _, n := range []int{1, 2, 3, 7, mostLists} {
		for i := range n {
			checkAll(t, lists(n, i, right))
			for at := range len(right) - 1 {
				turned := slices.Clone(right)
				turned[at], turned[at+1] = turned[at+1], turned[at]
				checkRefused(t, lists(n, i, turned))
			}
			for at := range right {
				for _, x := range []api.Item{right[at], dead(right[at].Key), far(right[at].Key, 1)} {
					checkRefused(t, lists(n, i, slices.Insert(slices.Clone(right), at, x)))
				}
			}
		}
	}
	for _, wrong := range [][]api.Item{
		list("aa", 1), list("ba", 1), list("aba", 1), list("bab", 1),
		{near("ab"), near("a")}, {near("a\x00"), near("a")}, {near("\x80"), near("\x7f")}, {near("\xff"), near("\x00")},
		{near("a"), near("B")}, {near("9"), near("10")},
	} {
		checkRefused(t, [][]api.Item{wrong})
		checkRefused(t, [][]api.Item{nil, wrong})
		checkRefused(t, [][]api.Item{wrong, list("z", 1)})
	}
}

// Mg1, Mg2: an item that may not be, whichever list it is in, and wherever it stands there.
func TestItemsThatMayNotBe(t *testing.T) {
	for _, wrong := range wrongItems() {
		for _, n := range []int{1, 2, 3, 4, mostLists} {
			for i := range n {
				l := make([][]api.Item, n)
				for k := range l {
					l[k] = list("amz", byte(k))
				}
				for _, ahead := range [][]api.Item{nil, list("a", 1), list("abc", 1)} {
					for _, behind := range [][]api.Item{nil, list("z", 1), list("xyz", 1)} {
						l[i] = slices.Concat(ahead, []api.Item{wrong}, behind)
						checkRefused(t, l)
					}
				}
			}
		}
	}
}

// Mg1: an item that may not be is refused also where it would not be told: below a newer one, behind the end of a range.
func TestRefusedWhereNotTold(t *testing.T) {
	long := near("m", make([]byte, mostPlain+1)...)
	l := [][]api.Item{list("m", 1), {long}}
	checkRefused(t, l)
	for _, c := range []struct {
		lo, hi string
		most   int
	}{{"", "a", 9}, {"z", "", 9}, {"", "", 0}, {"", "", 1}, {"b", "a", 9}} {
		if got, err := Scan(l, c.lo, c.hi, c.most); err != api.ErrArg || len(got) != 0 {
			t.Errorf("Scan(%q, %q, %d): %v, %d", c.lo, c.hi, c.most, got, err)
		}
	}
	for _, key := range []string{"", "a", "m", "z"} {
		if x, found, err := Get(l, key); err != api.ErrArg || found || !isZero(x) {
			t.Errorf("Get(%q): %v, %v, %d", key, x, found, err)
		}
	}
}

// Mg1, Mg2: lists that share no key, some, all: the newest one's item is told, Dead or not.
func TestAllKnown(t *testing.T) {
	for _, c := range []struct {
		l          [][]api.Item
		want, live []api.Item
	}{
		{[][]api.Item{list("ad", 1), list("be", 2), list("cf", 3)},
			[]api.Item{near("a", 1), near("b", 2), near("c", 3), near("d", 1), near("e", 2), near("f", 3)},
			[]api.Item{near("a", 1), near("b", 2), near("c", 3), near("d", 1), near("e", 2), near("f", 3)}},
		{[][]api.Item{list("ab", 1), list("bc", 2), list("cd", 3)},
			[]api.Item{near("a", 1), near("b", 1), near("c", 2), near("d", 3)},
			[]api.Item{near("a", 1), near("b", 1), near("c", 2), near("d", 3)}},
		{[][]api.Item{list("abc", 1), list("abc", 2), list("abc", 3)}, list("abc", 1), list("abc", 1)},
		{[][]api.Item{list("c", 1), list("abc", 2)},
			[]api.Item{near("a", 2), near("b", 2), near("c", 1)}, []api.Item{near("a", 2), near("b", 2), near("c", 1)}},
		{[][]api.Item{list("xyz", 1), list("abc", 2)}, append(list("abc", 2), list("xyz", 1)...), append(list("abc", 2), list("xyz", 1)...)},
		{[][]api.Item{list("abc", 1), list("xyz", 2)}, append(list("abc", 1), list("xyz", 2)...), append(list("abc", 1), list("xyz", 2)...)},
		// Dead in the newest, alive below.
		{[][]api.Item{{dead("a")}, list("ab", 2), list("abc", 3)},
			[]api.Item{dead("a"), near("b", 2), near("c", 3)}, []api.Item{near("b", 2), near("c", 3)}},
		// Alive in the newest, Dead below.
		{[][]api.Item{{near("a", 1)}, {dead("a")}}, list("a", 1), list("a", 1)},
		// Dead between: neither what is above nor what is below it counts for the other.
		{[][]api.Item{{near("b", 1)}, {dead("a"), dead("b")}, list("abc", 3)},
			[]api.Item{dead("a"), near("b", 1), near("c", 3)}, []api.Item{near("b", 1), near("c", 3)}},
		// Dead everywhere, or in the oldest alone.
		{[][]api.Item{{dead("a")}, {dead("a")}}, []api.Item{dead("a")}, nil},
		{[][]api.Item{list("b", 1), {dead("a")}}, []api.Item{dead("a"), near("b", 1)}, list("b", 1)},
		// Far or not.
		{[][]api.Item{{far("a", 1)}, {near("a", 2), far("b", 2)}, {far("a", 3), far("b", 3)}},
			[]api.Item{far("a", 1), far("b", 2)}, []api.Item{far("a", 1), far("b", 2)}},
		// By bytes: a key that begins another one stands ahead of it.
		{[][]api.Item{{near("a\x00"), near("b")}, {near("a"), near("a\x00\x00"), near("ab"), near("\x80")}, {near("A"), near("\xff")}},
			[]api.Item{near("A"), near("a"), near("a\x00"), near("a\x00\x00"), near("ab"), near("b"), near("\x80"), near("\xff")},
			[]api.Item{near("A"), near("a"), near("a\x00"), near("a\x00\x00"), near("ab"), near("b"), near("\x80"), near("\xff")}},
	} {
		if got, err := All(c.l, false); err != api.OK || !plainSame(got, c.want) {
			t.Errorf("All(%v, false): %v, %d; want %v", c.l, got, err, c.want)
		}
		if got, err := All(c.l, true); err != api.OK || !plainSame(got, c.live) {
			t.Errorf("All(%v, true): %v, %d; want %v", c.l, got, err, c.live)
		}
		checkLists(t, c.l)
	}
}

// rangeLists tell, without the dead, c (of 1), e (of 3), g (of 2), i (of 1), k (of 3); a, m and n are Dead.
func rangeLists() [][]api.Item {
	return [][]api.Item{
		{dead("a"), near("c", 1), near("i", 1), dead("n")},
		{near("a", 2), near("g", 2), near("i", 2), dead("m")},
		{near("c", 3), near("e", 3), dead("g"), near("k", 3), near("m", 3)},
	}
}

// Mg1: Scan of all ranges: empty ends, at a key, between two, hi not above lo; of each how many there may be.
func TestScanKnown(t *testing.T) {
	l := rangeLists()
	keys := strings.Split("abcdefghijklmnop", "")
	keys = append(keys, "", "\x00", "e\x00", "dz", "\xff", strings.Repeat("e", mostKey+1))
	for _, lo := range keys {
		for _, hi := range keys {
			for _, most := range []int{math.MinInt, -1, 0, 1, 2, 3, 4, 5, 6, 100, math.MaxInt} {
				checkScan(t, l, lo, hi, most)
			}
		}
	}
	all := []api.Item{near("c", 1), near("e", 3), near("g", 2), near("i", 1), near("k", 3)}
	for _, c := range []struct {
		lo, hi string
		most   int
		want   []api.Item
	}{
		{"", "", 5, all},
		{"", "", 4, all[:4]},
		{"", "", 1, all[:1]}, // a is Dead, and does not count
		{"", "", 0, nil},
		{"", "", -1, nil},
		{"", "", math.MinInt, nil},
		{"", "", math.MaxInt, all},
		{"e", "", 9, all[1:]}, // at a key: it is in
		{"d", "", 9, all[1:]}, // between two
		{"", "e", 9, all[:1]}, // at a key: it is not in
		{"", "f", 9, all[:2]}, // between two
		{"e", "i", 9, all[1:3]},
		{"e", "i", 1, all[1:2]},
		{"e", "e", 9, nil}, // hi not above lo
		{"i", "e", 9, nil},
		{"z", "b", 9, nil},
		{"a", "c", 9, nil}, // only a Dead one
		{"l", "", 9, nil},  // only Dead ones, at the end
		{"i", "", 2, all[3:]},
		{"", "\x00", 9, nil},
	} {
		if got, err := Scan(l, c.lo, c.hi, c.most); err != api.OK || !plainSame(got, c.want) {
			t.Errorf("Scan(%q, %q, %d): %v, %d; want %v", c.lo, c.hi, c.most, got, err, c.want)
		}
	}
}

// Mg1: Get of keys of the newest list, of an older one alone, of a Dead item, of a key that none has, of an empty one.
func TestGetKnown(t *testing.T) {
	l := rangeLists()
	for _, c := range []struct {
		key  string
		want api.Item
	}{
		{"a", dead("a")},    // Dead in the newest, alive below
		{"c", near("c", 1)}, // in the newest, and below
		{"e", near("e", 3)}, // in the oldest alone
		{"g", near("g", 2)}, // Dead below
		{"i", near("i", 1)},
		{"k", near("k", 3)},
		{"m", dead("m")}, // Dead in the second, alive below
		{"n", dead("n")}, // Dead, and nowhere else
	} {
		if x, found, err := Get(l, c.key); err != api.OK || !found || !plainSameItem(x, c.want) {
			t.Errorf("Get(%q): %v, %v, %d; want %v", c.key, x, found, err, c.want)
		}
	}
	for _, key := range []string{"", "\x00", "b", "d", "o", "c\x00", "\xff", "C", strings.Repeat("c", mostKey), strings.Repeat("c", mostKey+1), strings.Repeat("c", 5000)} {
		if x, found, err := Get(l, key); err != api.OK || found || !isZero(x) {
			t.Errorf("Get(%q): %v, %v, %d", key, x, found, err)
		}
	}
}

// Mg1, Mg2: all calls as the words say, of many lists; some of them are none.
func TestAsTheWordsSay(t *testing.T) {
	r := newSource()
	right, wrong, shared := 0, 0, 0
	for range 1500 {
		l := someLists(r, r.Intn(mostLists+1)>>r.Intn(7))
		if r.Intn(3) == 0 && len(l) > 0 {
			turn(r.Intn, l[r.Intn(len(l))])
		}
		if !plainAreLists(l) {
			checkRefused(t, l)
			wrong++
			continue
		}
		right++
		checkAll(t, l)
		checkWalk(t, l)
		keys := moreKeys(l)
		for range 10 {
			lo, hi := keys[r.Intn(len(keys))], keys[r.Intn(len(keys))]
			checkGet(t, l, lo)
			checkScan(t, l, lo, hi, r.Intn(30)-1)
			checkScan(t, l, min(lo, hi), max(lo, hi), r.Intn(30)-1)
		}
		if len(slices.Concat(l...)) > 2*len(plainMerged(l)) {
			shared++
		}
	}
	if right < 800 || wrong < 150 || shared < 200 {
		t.Errorf("only %d were lists, %d were none, %d shared many keys", right, wrong, shared)
	}
}

// turn lets a list be another one, mostly one that can't be.
func turn(intn func(int) int, items []api.Item) {
	if len(items) == 0 {
		return
	}
	at := intn(len(items))
	switch intn(4) {
	case 0:
		items[at] = items[intn(len(items))]
	case 1:
		items[at].Key = ""
	case 2:
		items[at].Dead = !items[at].Dead
	case 3:
		items[at].Cell.Far = !items[at].Cell.Far
	}
}

// Mg3: merging the first lists ahead, and then with the others, is merging all, wherever they are parted; so is merging any others ahead that stand beside each other.
func TestMergedAhead(t *testing.T) {
	r := newSource()
	for range 100 {
		l := someLists(r, 1+r.Intn(mostLists)>>r.Intn(7))
		for end := range len(l) {
			checkAlike(t, l, joined(t, l, 0, end+1))
		}
		if len(l) < mostLists {
			checkAlike(t, l, joined(t, l, 0, 0))
		}
		from := r.Intn(len(l))
		checkAlike(t, l, joined(t, l, from, from+1+r.Intn(len(l)-from)))
		// Of the oldest ones the dead may be left out ahead, if they are left out then.
		oldest, _ := All(l[from:], true)
		got, err := All(slices.Concat(l[:from], [][]api.Item{oldest}), true)
		if want := plainAll(l, true); err != api.OK || !plainSame(got, want) {
			t.Fatalf("without the dead ahead: %v, %d; want %v", got, err, want)
		}
	}
}

// joined is lists of which some, beside each other, are merged ahead.
func joined(t *testing.T, l [][]api.Item, from, end int) [][]api.Item {
	t.Helper()
	one, err := All(l[from:end], false)
	if err != api.OK {
		t.Fatalf("All(%v): %d", l[from:end], err)
	}
	return slices.Concat(l[:from], [][]api.Item{one}, l[end:])
}

// checkAlike asks that lists, and others, are merged alike.
func checkAlike(t *testing.T, l, other [][]api.Item) {
	t.Helper()
	for _, drop := range []bool{false, true} {
		one, err := All(l, drop)
		two, err2 := All(other, drop)
		if err != api.OK || err2 != api.OK || !plainSame(one, two) {
			t.Fatalf("All(%v): %v, %d; of %v: %v, %d", l, one, err, other, two, err2)
		}
	}
	keys := moreKeys(l)
	for i := range 3 {
		lo, hi := keys[i*len(keys)/5], keys[len(keys)-1-i]
		one, _ := Scan(l, lo, hi, 9)
		two, _ := Scan(other, lo, hi, 9)
		x, found, _ := Get(l, hi)
		y, found2, _ := Get(other, hi)
		if !plainSame(one, two) || found != found2 || !plainSameItem(x, y) {
			t.Fatalf("%q, %q: %v, %v; want %v, %v", lo, hi, two, y, one, x)
		}
	}
}

// Mg3: one behind the other, from the newest on and from the oldest on.
func TestMergedOneByOne(t *testing.T) {
	r := newSource()
	for range 200 {
		l := someLists(r, 1+r.Intn(12))
		want := plainAll(l, false)
		var down, up []api.Item
		for i := range l {
			down, _ = All([][]api.Item{down, l[i]}, false)
			up, _ = All([][]api.Item{l[len(l)-1-i], up}, false)
		}
		if !plainSame(down, want) || !plainSame(up, want) {
			t.Fatalf("%v: %v and %v; want %v", l, down, up, want)
		}
	}
}
