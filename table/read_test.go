package table

import (
	"bytes"
	"math"
	"slices"
	"strings"
	"testing"

	"garner/api"
)

// opened is a table of some items, parted by a size.
func opened(t *testing.T, l []api.Item, size int) *Table {
	t.Helper()
	b, err := Make(l, size)
	if err != api.OK {
		t.Fatalf("Make: %d", err)
	}
	return mustOpen(t, b)
}

// Tb2: each key of a table, of one part and of many; keys ahead of all, between two, also between two parts, and behind all; the empty one.
func TestFindKnown(t *testing.T) {
	for _, n := range []int{1, 2, 3, 4, 7, 63, 64, 65, 150} {
		l := row(n)
		for _, size := range []int{1, 30, 60, 512, mostSize} {
			table := opened(t, l, size)
			for i := range 2*n + 2 {
				x, found := table.Find(numbered(i))
				if i%2 == 1 && i < 2*n {
					if !found || !plainSameItem(x, l[i/2]) || !table.May(numbered(i)) {
						t.Fatalf("Find(%q): %v, %v", numbered(i), x, found)
					}
				} else if found || !isZero(x) {
					t.Fatalf("Find(%q): %v, %v", numbered(i), x, found)
				}
			}
			for _, key := range []string{"", "\x00", "0", "000", "zzz", "\xff", strings.Repeat("\xff", mostKey), strings.Repeat("0", mostKey), strings.Repeat("x", 5000)} {
				checkFind(t, table, l, key)
			}
			for _, x := range l {
				checkFind(t, table, l, x.Key+"\x00")
				checkFind(t, table, l, x.Key[:len(x.Key)-1])
			}
		}
	}
}

// Tb2: a Dead item is found too.
func TestFindDead(t *testing.T) {
	table := opened(t, []api.Item{near("a", 1), dead("b"), near("c", 3)}, 20)
	if x, found := table.Find("b"); !found || !x.Dead || x.Key != "b" {
		t.Errorf("Find: %v, %v", x, found)
	}
	if l := table.Scan("b", "c", 9); len(l) != 1 || !l[0].Dead {
		t.Errorf("Scan: %v", l)
	}
}

// Tb2: May is what the sieve says, also of keys that are not there, and of such as can't be; some of these it has.
func TestMayAsTheSieve(t *testing.T) {
	r := newSource()
	has, hasNot := 0, 0
	for range 20 {
		l := someItems(r, 1+r.Intn(60))
		table := opened(t, l, 1+r.Intn(300))
		for range 500 {
			key := someKey(r)
			if r.Intn(4) == 0 {
				key = string(someBytes(r, r.Intn(200)))
			}
			want := plainMay(l, key)
			if may := table.May(key); may != want {
				t.Fatalf("May(%q): %v", key, may)
			}
			if _, there := plainFind(l, key); there {
				continue
			}
			if want {
				has++
			} else {
				hasNot++
			}
		}
	}
	if has < 20 || hasNot < 1000 {
		t.Errorf("of keys that are not there %d may be, and %d may not", has, hasNot)
	}
}

// Tb2: Scan of all ranges: empty ends, at a key, between two, hi not above lo; of each how many there may be; within a part, and over several.
func TestScanKnown(t *testing.T) {
	l := row(7)
	keys := []string{"", "\x00", "0", "\xff"}
	for i := range 16 {
		keys = append(keys, numbered(i))
	}
	for _, size := range []int{1, 25, 50, 75, 512} {
		table := opened(t, l, size)
		for _, lo := range keys {
			for _, hi := range keys {
				for _, most := range []int{math.MinInt, -1, 0, 1, 2, 3, 6, 7, 8, 100, math.MaxInt} {
					checkScan(t, table, l, lo, hi, most)
				}
			}
		}
	}
	table := opened(t, l, 50)
	for _, c := range []struct {
		lo, hi string
		most   int
		want   []api.Item
	}{
		{"", "", 7, l},
		{"", "", 3, l[:3]},
		{"", "", 0, nil},
		{"", "", -1, nil},
		{numbered(3), "", 9, l[1:]}, // at a key: it is in
		{numbered(4), "", 9, l[2:]}, // between two
		{"", numbered(3), 9, l[:1]}, // at a key: it is not in
		{"", numbered(4), 9, l[:2]}, // between two
		{numbered(3), numbered(9), 9, l[1:4]},
		{numbered(3), numbered(9), 2, l[1:3]},
		{numbered(3), numbered(3), 9, nil}, // hi not above lo
		{numbered(3), numbered(2), 9, nil},
		{"z", "a", 9, nil},
		{numbered(14), "", 9, nil}, // behind all
		{"", numbered(1), 9, nil},  // ahead of all
		{numbered(13), "", 9, l[6:]},
		{"", "\x00", 9, nil},
	} {
		if got := table.Scan(c.lo, c.hi, c.most); !plainSame(got, c.want) {
			t.Errorf("Scan(%q, %q, %d): %v; want %v", c.lo, c.hi, c.most, got, c.want)
		}
	}
}

// Tb2: all calls as the words say, of tables parted anyhow.
func TestReadAsTheWordsSay(t *testing.T) {
	r := newSource()
	found, others, some := 0, 0, 0
	for range 300 {
		list := someParts(r, 1+r.Intn(150)>>r.Intn(6), 1+r.Intn(40))
		l := slices.Concat(list...)
		table := mustOpen(t, plainBytes(list...))
		checkWhole(t, table, l)
		for range 60 {
			key := someKey(r)
			if r.Intn(2) == 0 {
				key = l[r.Intn(len(l))].Key
			}
			checkFind(t, table, l, key)
			if _, there := table.Find(key); there {
				found++
			} else {
				others++
			}
			lo, hi, most := key, someKey(r), r.Intn(2*len(l)+2)-1
			if r.Intn(2) == 0 {
				lo, hi = hi, lo
			}
			checkScan(t, table, l, lo, hi, most)
			some += len(table.Scan(lo, hi, most))
		}
	}
	if found < 1000 || others < 1000 || some < 10000 {
		t.Errorf("only %d were found, %d were not, %d were scanned", found, others, some)
	}
}

// Tb2: All, Len and Ends of one part and of many.
func TestWholeKnown(t *testing.T) {
	for _, n := range []int{1, 2, 63, 64, 65, 128, 129, 1000} {
		for _, size := range []int{1, 100, 512, mostSize} {
			checkWhole(t, opened(t, row(n), size), row(n))
		}
	}
	table := opened(t, []api.Item{near("only", 1)}, 512)
	if first, last := table.Ends(); first != "only" || last != "only" || table.Len() != 1 {
		t.Errorf("%q, %q, %d", first, last, table.Len())
	}
}

// R1: a Table that Open did not give: nothing, false, 0, no ends, whatever is asked.
func TestNobodysTable(t *testing.T) {
	refused, _ := Open([]byte{1, 2, 3})
	for what, table := range map[string]*Table{"nil": nil, "zero": {}, "new": new(Table), "refused": refused} {
		for _, key := range []string{"", "a", "\x00", numbered(1), strings.Repeat("x", 5000)} {
			if x, found := table.Find(key); found || !isZero(x) {
				t.Errorf("%s: Find(%q): %v, %v", what, key, x, found)
			}
			if table.May(key) {
				t.Errorf("%s: May(%q)", what, key)
			}
			for _, most := range []int{math.MinInt, -1, 0, 1, math.MaxInt} {
				if l := table.Scan(key, "", most); len(l) != 0 {
					t.Errorf("%s: Scan: %v", what, l)
				}
				if l := table.Scan("", key, most); len(l) != 0 {
					t.Errorf("%s: Scan: %v", what, l)
				}
			}
		}
		if l := table.All(); len(l) != 0 || table.Len() != 0 {
			t.Errorf("%s: All: %v, Len: %d", what, l, table.Len())
		}
		if first, last := table.Ends(); first != "" || last != "" {
			t.Errorf("%s: Ends: %q, %q", what, first, last)
		}
	}
}

// R1, R5: the zero item may not be; empty Bytes, or none, are the same, also of a Dead item.
func TestZeroValues(t *testing.T) {
	checkRefused(t, make([]api.Item, 1), 512)
	checkRefused(t, make([]api.Item, 2), 1)
	checkRefused(t, []api.Item{dead("a"), {}}, 1)
	for _, isDead := range []bool{false, true} {
		with, err := Make([]api.Item{{Key: "k", Dead: isDead, Cell: api.Cell{Bytes: []byte{}}}}, 9)
		without, err2 := Make([]api.Item{{Key: "k", Dead: isDead}}, 9)
		if err != api.OK || err2 != api.OK || !bytes.Equal(with, without) {
			t.Errorf("empty Bytes are put as %v, %d; none as %v, %d", with, err, without, err2)
		}
	}
}

// spoil turns all that can be reached from b.
func spoil(b []byte) {
	for i := range b[:cap(b)] {
		b[:cap(b)][i] ^= 255
	}
}

// spoilItems turns all that can be reached from l.
func spoilItems(l []api.Item) {
	for i := range l {
		spoil(l[i].Cell.Bytes)
	}
	whole := l[:cap(l)]
	for i := range whole {
		whole[i] = dead("spoilt")
	}
}

// R3: Make does not write to its items, nor behind them; what it tells is no part of them, nor of another answer.
func TestMakeIsNew(t *testing.T) {
	r := newSource()
	for range 300 {
		whole := someItems(r, 100)
		for i, x := range whole {
			// Bytes that stand in longer memory.
			whole[i].Cell.Bytes = append(x.Cell.Bytes, 1, 2, 3)[:len(x.Cell.Bytes)]
		}
		var memory [][]byte
		for _, x := range whole {
			memory = append(memory, slices.Clone(x.Cell.Bytes[:cap(x.Cell.Bytes)]))
		}
		kept := deepCopy(whole)
		size := 1 + r.Intn(2000)
		n := 1 + r.Intn(100)
		first, _ := Make(whole[:n], size)
		second, err := Make(whole[:n], size)
		Make(whole, 0)
		if !plainSame(whole, kept) {
			t.Fatal("Make wrote to its items, or behind them")
		}
		for i, x := range whole {
			if !bytes.Equal(memory[i], x.Cell.Bytes[:cap(x.Cell.Bytes)]) {
				t.Fatal("Make wrote to a cell's bytes, or behind them")
			}
		}
		spoil(first)
		if !plainSame(whole, kept) {
			t.Fatal("what Make tells is a part of its items")
		}
		spoilItems(whole)
		if err != api.OK || !bytes.Equal(second, plainBytes(plainParts(kept[:n], size)...)) {
			t.Fatal("what Make tells shares memory")
		}
	}
}

// R3: Open does not write to its bytes, nor behind them; a table stays as it was, whatever is done to them.
func TestOpenKeepsNothing(t *testing.T) {
	r := newSource()
	for range 300 {
		list := someParts(r, 1+r.Intn(40), 10)
		l := slices.Concat(list...)
		right := plainBytes(list...)
		b := append(slices.Clone(right), someBytes(r, 30)...)
		kept := slices.Clone(b)
		table := mustOpen(t, b[:len(right)])
		Open(b)
		Open(b[:r.Intn(len(right))])
		checkWhole(t, table, l)
		if !bytes.Equal(b, kept) {
			t.Fatal("Open wrote to its bytes, or behind them")
		}
		spoil(b)
		checkWhole(t, table, l)
		checkFind(t, table, l, l[r.Intn(len(l))].Key)
		checkFind(t, table, l, someKey(r))
	}
}

// R3: what a table answers is no part of it, nor of another answer; and no two lists of one answer share any.
func TestAnswersAreNew(t *testing.T) {
	r := newSource()
	for range 200 {
		list := someParts(r, 1+r.Intn(60), 10)
		l := slices.Concat(list...)
		table := mustOpen(t, plainBytes(list...))
		x, _ := table.Find(l[0].Key)
		again, _ := table.Find(l[0].Key)
		all, scanned, third := table.All(), table.Scan("", "", len(l)), table.Scan(l[0].Key, "", math.MaxInt)
		spoil(x.Cell.Bytes)
		spoilItems(all)
		if !plainSameItem(again, l[0]) || !plainSame(scanned, l) {
			t.Fatal("two answers share memory")
		}
		checkWhole(t, table, l)
		spoilItems(scanned)
		for i := range third {
			spoil(third[i].Cell.Bytes)
			if !plainSame(third[i+1:], l[i+1:]) {
				t.Fatal("lists of one answer share memory")
			}
		}
		// Nor is what is put behind an answer.
		part := table.Scan("", "", 1+r.Intn(len(l)))
		part = append(part, dead("behind"))
		spoilItems(part)
		checkWhole(t, table, l)
		for _, x := range l {
			checkFind(t, table, l, x.Key)
		}
	}
}

// R3: a table is not held by another one, and a copy of it reads the same.
func TestTablesByThemselves(t *testing.T) {
	b := plainBytes(row(9)[:4], row(9)[4:])
	first, second := mustOpen(t, b), mustOpen(t, b)
	if first == second {
		t.Fatal("both are one")
	}
	spoilItems(first.All())
	third := *first
	checkTable(t, first, row(9))
	checkTable(t, second, row(9))
	checkTable(t, &third, row(9))
}

// R4: the same answers, again and again, whatever the memory around is and whatever was asked in between.
func TestSameAgain(t *testing.T) {
	r := newSource()
	for range 500 {
		l := someItems(r, 1+r.Intn(50))
		size := 1 + r.Intn(500)
		one, err := Make(l, size)
		Make(someItems(r, 3), 7)
		other, err2 := Make(append(deepCopy(l), api.Item{})[:len(l)], size)
		if err != err2 || !bytes.Equal(one, other) {
			t.Fatalf("Make(%v, %d) answers otherwise", l, size)
		}
		long := append(slices.Clone(one), someBytes(r, 20)...)
		a, b := mustOpen(t, long[:len(one)]), mustOpen(t, slices.Clip(other))
		for range 20 {
			key := someKey(r)
			hi, most := someKey(r), r.Intn(60)
			x, found := a.Find(key)
			y, found2 := b.Find(strings.Clone(key))
			if found != found2 || !plainSameItem(x, y) || a.May(key) != b.May(key) || !plainSame(a.Scan(key, hi, most), b.Scan(key, hi, most)) {
				t.Fatalf("%q: they answer otherwise", key)
			}
		}
		if !plainSame(a.All(), b.All()) || a.Len() != b.Len() {
			t.Fatal("they answer otherwise")
		}
	}
}

func BenchmarkMake(b *testing.B) {
	l := row(mostItems)
	for b.Loop() {
		Make(l, 512)
	}
}

func BenchmarkOpen(b *testing.B) {
	whole, _ := Make(row(mostItems), 512)
	for b.Loop() {
		Open(whole)
	}
}

func BenchmarkFind(b *testing.B) {
	whole, _ := Make(row(mostItems), 512)
	table, _ := Open(whole)
	i := 0
	for b.Loop() {
		table.Find(numbered(i % (2 * mostItems)))
		i++
	}
}
