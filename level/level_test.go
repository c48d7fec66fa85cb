package level

import (
	"math"
	"slices"
	"strings"
	"testing"

	"garner/api"
)

func tab(num, level int, first, last string) api.Tab {
	return api.Tab{Num: num, Level: level, Size: 10, First: first, Last: last}
}

// checkTabs asks for everything of tables, those that may not be too, in several orders.
func checkTabs(t *testing.T, l []api.Tab) {
	t.Helper()
	want := api.OK
	if !plainMayBe(l) {
		want = api.ErrArg
	}
	for _, l := range [][]api.Tab{l, backward(l), rolled(l)} {
		if got := Check(l); got != want {
			t.Fatalf("Check(%v): %d; want %d", l, got, want)
		}
		if got := Order(l); !slices.Equal(got, plainOrder(l)) {
			t.Fatalf("Order(%v): %v; want %v", l, got, plainOrder(l))
		}
		for _, key := range moreKeys(l) {
			checkFind(t, l, key)
		}
		for _, base := range []int{math.MinInt, -1, 0, 1, 2, 100, 1000, 1 << 19, mostBase - 1, mostBase, mostBase + 1, math.MaxInt} {
			checkPick(t, l, base)
		}
		checkAll(t, l)
	}
}

func backward(l []api.Tab) []api.Tab {
	l = slices.Clone(l)
	slices.Reverse(l)
	return l
}

// rolled begins in the middle.
func rolled(l []api.Tab) []api.Tab {
	return slices.Concat(l[len(l)/2:], l[:len(l)/2])
}

// moreKeys are the ends of the tables, those close to them, and some others.
func moreKeys(l []api.Tab) []string {
	keys := []string{"", "\x00", "m", "\xff", strings.Repeat("\xff", mostKey), strings.Repeat("x", mostKey+1), strings.Repeat("a", 5000)}
	for _, x := range l {
		for _, key := range []string{x.First, x.Last} {
			keys = append(keys, key, key+"\x00", key[:max(len(key)-1, 0)])
		}
	}
	slices.Sort(keys)
	return slices.Compact(keys)
}

func checkFind(t *testing.T, l []api.Tab, key string) {
	t.Helper()
	want := plainFind(l, key)
	if got := Find(l, key); !slices.Equal(got, want) {
		t.Fatalf("Find(%v, %q): %v; want %v", l, key, got, want)
	}
}

func checkPick(t *testing.T, l []api.Tab, base int) {
	t.Helper()
	want, there := plainPick(l, base)
	if got, ok := Pick(l, base); ok != there || !sameJob(got, want) {
		t.Fatalf("Pick(%v, %d): %v, %v; want %v, %v", l, base, got, ok, want, there)
	}
}

func checkAll(t *testing.T, l []api.Tab) {
	t.Helper()
	want, there := plainAll(l)
	if got, ok := All(l); ok != there || !sameJob(got, want) {
		t.Fatalf("All(%v): %v, %v; want %v, %v", l, got, ok, want, there)
	}
}

// checkMay asks that tables may be, or that they may not, whatever is asked of them.
func checkMay(t *testing.T, l []api.Tab, may bool) {
	t.Helper()
	if plainMayBe(l) != may {
		t.Fatalf("the test itself is wrong: %v", l)
	}
	checkTabs(t, l)
	if may {
		return
	}
	if Check(l) != api.ErrArg {
		t.Fatalf("Check(%v)", l)
	}
	if got := Order(l); len(got) != 0 {
		t.Fatalf("Order(%v): %v", l, got)
	}
	for _, key := range moreKeys(l) {
		if got := Find(l, key); len(got) != 0 {
			t.Fatalf("Find(%v, %q): %v", l, key, got)
		}
	}
	for _, base := range []int{0, 1, 100, mostBase} {
		if got, ok := Pick(l, base); ok || !sameJob(got, api.Job{}) {
			t.Fatalf("Pick(%v, %d): %v, %v", l, base, got, ok)
		}
	}
	if got, ok := All(l); ok || !sameJob(got, api.Job{}) {
		t.Fatalf("All(%v): %v, %v", l, got, ok)
	}
}

// aside are tables that may be, beside which others are held.
func aside() []api.Tab {
	return []api.Tab{tab(11, 0, "a", "z"), tab(12, 1, "a", "b"), tab(13, 2, "c", "d"), tab(14, 3, "a", "d"), tab(15, 4, "a", "b")}
}

// checkBeside asks for tables alone, and among others, at each place.
func checkBeside(t *testing.T, may bool, some ...api.Tab) {
	t.Helper()
	checkMay(t, some, may)
	for i := range len(aside()) + 1 {
		checkMay(t, slices.Insert(aside(), i, some...), may)
	}
	if len(some) == 2 {
		for i := range len(aside()) + 1 {
			checkMay(t, slices.Insert(slices.Insert(aside(), i, some[0]), 0, some[1]), may)
			checkMay(t, append(slices.Insert(aside(), i, some[0]), some[1]), may)
		}
	}
}

// Le1, R5: no tables, nil or empty: they may be, and there is nothing.
func TestNone(t *testing.T) {
	for _, l := range [][]api.Tab{nil, {}, make([]api.Tab, 0, 9)} {
		if Check(l) != api.OK || len(Order(l)) != 0 || len(Find(l, "a")) != 0 || len(Find(l, "")) != 0 {
			t.Errorf("no tables")
		}
		for _, base := range []int{0, 1, 100, mostBase, mostBase + 1} {
			if j, ok := Pick(l, base); ok || !sameJob(j, api.Job{}) {
				t.Errorf("Pick: %v, %v", j, ok)
			}
		}
		if j, ok := All(l); ok || !sameJob(j, api.Job{}) {
			t.Errorf("All: %v, %v", j, ok)
		}
	}
}

// Le1: one table, of every level.
func TestOne(t *testing.T) {
	for n := range mostLevel + 1 {
		l := []api.Tab{tab(7, n, "b", "d")}
		checkMay(t, l, true)
		if !slices.Equal(Order(l), []int{7}) {
			t.Errorf("Order: %v", Order(l))
		}
		if j, ok := All(l); !ok || !sameJob(j, api.Job{In: []int{7}, Level: max(n, 1), Drop: true}) {
			t.Errorf("All: %v, %v", j, ok)
		}
	}
}

// Le1: as many as there may be, on level 0, on another one and on all of them, and one more.
func TestAsManyAsMayBe(t *testing.T) {
	for _, of := range []func(i int) int{
		func(i int) int { return 0 },
		func(i int) int { return 1 },
		func(i int) int { return 4 },
		func(i int) int { return i % 5 },
	} {
		var l []api.Tab
		for i := range 200 {
			l = append(l, tab(1+i, of(i), numbered(2*i), numbered(2*i+1)))
		}
		for _, n := range []int{1, 2, 63, 64} {
			checkMay(t, l[:n], true)
			if got := Order(l[:n]); len(got) != n {
				t.Errorf("Order: %v", got)
			}
		}
		for _, n := range []int{65, 66, 128, 200} {
			checkMay(t, l[:n], false)
		}
	}
	if Check(make([]api.Tab, 1<<20)) != api.ErrArg {
		t.Error("very many")
	}
}

// Le1: each Num counts.
func TestNums(t *testing.T) {
	for num, may := range map[int]bool{
		math.MinInt: false, -mostCount: false, -1: false, 0: false, 1: true, 2: true, mostCount - 1: true, mostCount: true, mostCount + 1: false, 1 << 32: false, 1<<32 + 1: false, math.MaxInt: false,
	} {
		for n := range mostLevel + 1 {
			checkBeside(t, may, tab(num, n, "x", "y"))
		}
	}
}

// Le1: no two Nums are the same, on the same level and on others.
func TestSameNum(t *testing.T) {
	for _, num := range []int{1, 9, mostCount} {
		for a := range mostLevel + 1 {
			for b := range mostLevel + 1 {
				checkBeside(t, false, tab(num, a, "m", "n"), tab(num, b, "x", "y"))
				checkBeside(t, true, tab(num, a, "m", "n"), tab(num%mostCount+1, b, "x", "y"))
			}
		}
	}
	checkBeside(t, false, tab(9, 0, "x", "y"), tab(9, 0, "x", "y"))
}

// Le1: a Level is 0 to 4.
func TestLevels(t *testing.T) {
	for n, may := range map[int]bool{
		math.MinInt: false, -2: false, -1: false, 0: true, 1: true, 2: true, 3: true, 4: true, 5: false, 6: false, 1 << 32: false, math.MaxInt: false,
	} {
		checkBeside(t, may, tab(1, n, "x", "y"))
	}
}

// Le1: a Size is 0 to 2^30.
func TestSizes(t *testing.T) {
	for size, may := range map[int]bool{
		math.MinInt: false, -2: false, -1: false, 0: true, 1: true, mostSize - 1: true, mostSize: true, mostSize + 1: false, mostCount: false, 1 << 32: false, math.MaxInt: false,
	} {
		for n := range mostLevel + 1 {
			x := tab(1, n, "x", "y")
			x.Size = size
			checkBeside(t, may, x)
		}
	}
}

// Le1: First and Last are of 1 to 64 bytes.
func TestLengths(t *testing.T) {
	for n, may := range map[int]bool{0: false, 1: true, 2: true, 63: true, 64: true, 65: false, 1000: false} {
		for level := range mostLevel + 1 {
			checkBeside(t, may, tab(1, level, strings.Repeat("x", n), strings.Repeat("x", n)))
			checkBeside(t, may, tab(1, level, strings.Repeat("x", n), "y"))
			checkBeside(t, may, tab(1, level, "w", strings.Repeat("x", n)))
			checkBeside(t, may, tab(1, level, strings.Repeat("\xff", n), strings.Repeat("\xff", n)))
		}
	}
}

// Le1: First is not above Last; it may be the same; keys are held against each other byte by byte.
func TestFirstAndLast(t *testing.T) {
	for _, x := range []struct {
		first, last string
		may         bool
	}{
		{"x", "x", true}, {"x", "y", true}, {"y", "x", false}, {"x", "x\x00", true}, {"x\x00", "x", false}, {"xy", "xz", true}, {"xz", "xy", false},
		{"xx", "y", true}, {"y", "xx", false}, {"\x7f", "\x80", true}, {"\x80", "\x7f", false}, {"x", "\xff", true}, {"\xff", "x", false},
		{"Z", "z", true}, {"z", "Z", false}, {"\xe9", "\xc3\xa9", false}, {"\xc3\xa9", "\xe9", true}, {"\x00", "\x00", true},
		{strings.Repeat("x", 63) + "y", strings.Repeat("x", 64), false}, {strings.Repeat("x", 64), strings.Repeat("x", 63) + "y", true},
	} {
		for level := range mostLevel + 1 {
			checkMay(t, []api.Tab{tab(1, level, x.first, x.last)}, x.may)
			// Beside one of level 0, which may meet it.
			checkMay(t, []api.Tab{tab(2, 0, "a", "z"), tab(1, level, x.first, x.last)}, x.may)
		}
	}
}

// spansThatMeet are pairs of spans, and whether they meet.
func spansThatMeet() []struct {
	a, b [2]string
	meet bool
} {
	return []struct {
		a, b [2]string
		meet bool
	}{
		{[2]string{"m", "n"}, [2]string{"o", "p"}, false},
		{[2]string{"m", "n"}, [2]string{"n\x00", "p"}, false},
		{[2]string{"m", "n\x00"}, [2]string{"n\x01", "n\x01"}, false},
		{[2]string{"m", "m"}, [2]string{"n", "n"}, false},
		{[2]string{"m", "n"}, [2]string{"n", "p"}, true},
		{[2]string{"m", "m"}, [2]string{"m", "p"}, true},
		{[2]string{"m", "p"}, [2]string{"p", "p"}, true},
		{[2]string{"m", "p"}, [2]string{"n", "o"}, true},
		{[2]string{"m", "p"}, [2]string{"n", "n"}, true},
		{[2]string{"m", "p"}, [2]string{"m", "n"}, true},
		{[2]string{"m", "p"}, [2]string{"n", "p"}, true},
		{[2]string{"m", "p"}, [2]string{"m", "p"}, true},
		{[2]string{"m", "m"}, [2]string{"m", "m"}, true},
		{[2]string{"m", "o"}, [2]string{"n", "p"}, true},
		{[2]string{"m", "nn"}, [2]string{"n", "p"}, true},
		{[2]string{"m", "n"}, [2]string{"nn", "p"}, false},
		{[2]string{"m", "\x7f"}, [2]string{"\x80", "\xff"}, false},
		{[2]string{"m", "\x80"}, [2]string{"\x80", "\xff"}, true},
	}
}

// Le1: of one level above 0 no two meet, also not in one key; on level 0, and of different levels, they may.
func TestMeetingTables(t *testing.T) {
	for _, x := range spansThatMeet() {
		for a := range mostLevel + 1 {
			for b := range mostLevel + 1 {
				may := !x.meet || a != b || a == 0
				checkMay(t, []api.Tab{tab(1, a, x.a[0], x.a[1]), tab(2, b, x.b[0], x.b[1])}, may)
				checkMay(t, []api.Tab{tab(2, a, x.b[0], x.b[1]), tab(1, b, x.a[0], x.a[1])}, may)
				if a == b {
					checkBeside(t, may, tab(1, a, x.a[0], x.a[1]), tab(2, b, x.b[0], x.b[1]))
				}
			}
		}
	}
}

// Le1: two that meet are found whichever of many they are.
func TestMeetingAmongMany(t *testing.T) {
	for level := 1; level <= mostLevel; level++ {
		var l []api.Tab
		for i := range mostTabs {
			l = append(l, tab(1+i, level, numbered(3*i), numbered(3*i+2)))
		}
		if Check(l) != api.OK {
			t.Fatal("many of one level")
		}
		for i := range mostTabs {
			for k := range mostTabs {
				if i == k {
					continue
				}
				wrong := slices.Clone(l)
				// It shares one key with another one, or has its Num.
				wrong[i].First, wrong[i].Last = numbered(3*k+2), numbered(3*k+2)
				if Check(wrong) != api.ErrArg {
					t.Fatalf("table %d meets table %d", i, k)
				}
				wrong[i].Level = 0
				if Check(wrong) != api.OK {
					t.Fatalf("table %d of level 0 and table %d", i, k)
				}
				wrong[i].Num = wrong[k].Num
				if Check(wrong) != api.ErrArg {
					t.Fatalf("tables %d and %d have the same Num", i, k)
				}
			}
		}
	}
}

// Le1: each fault of one table, whichever of many it is.
func TestWrongAmongMany(t *testing.T) {
	for _, x := range wrongTabs() {
		checkMay(t, []api.Tab{x}, false)
		var l []api.Tab
		for i := range 20 {
			l = append(l, tab(1+i, i%5, numbered(i), numbered(i)))
		}
		for i := range l {
			wrong := slices.Clone(l)
			wrong[i] = x
			checkMay(t, wrong, false)
			checkMay(t, slices.Insert(slices.Clone(l), i, x), false)
		}
	}
}

// Le1: Meet, both ways round, whatever else the tables are, and of such as may not be too.
func TestMeet(t *testing.T) {
	for _, x := range spansThatMeet() {
		for _, a := range []api.Tab{{}, {Num: 1, Level: 2, Size: 3}, {Num: -1, Level: 9, Size: -1}} {
			for _, b := range []api.Tab{{}, {Num: 1, Level: 2, Size: 3}, {Num: 5, Level: 0}} {
				a.First, a.Last = x.a[0], x.a[1]
				b.First, b.Last = x.b[0], x.b[1]
				if Meet(a, b) != x.meet || Meet(b, a) != x.meet {
					t.Errorf("Meet(%v, %v)", a, b)
				}
			}
		}
	}
	for _, x := range []struct {
		a, b api.Tab
		meet bool
	}{
		{api.Tab{}, api.Tab{}, true},
		{api.Tab{}, api.Tab{First: "a", Last: "b"}, false},
		{api.Tab{Last: "z"}, api.Tab{First: "a", Last: "b"}, true},
		{api.Tab{First: "a"}, api.Tab{First: "a", Last: "b"}, false},
		{api.Tab{First: "d", Last: "b"}, api.Tab{First: "a", Last: "e"}, true},
		{api.Tab{First: "d", Last: "b"}, api.Tab{First: "c", Last: "c"}, false},
		{api.Tab{First: "d", Last: "b"}, api.Tab{First: "a", Last: "c"}, false},
		{api.Tab{First: "d", Last: "b"}, api.Tab{First: "d", Last: "b"}, false},
		{api.Tab{First: strings.Repeat("a", 1000), Last: strings.Repeat("b", 1000)}, api.Tab{First: "b", Last: "b"}, true},
	} {
		if Meet(x.a, x.b) != x.meet || Meet(x.b, x.a) != x.meet {
			t.Errorf("Meet(%v, %v)", x.a, x.b)
		}
	}
}

// Le1: Meet of any two.
func TestMeetOfMany(t *testing.T) {
	r := newSource()
	for range 20000 {
		a, b := api.Tab{First: someKey(r), Last: someKey(r)}, api.Tab{First: someKey(r), Last: someKey(r)}
		if Meet(a, b) != plainMeet(a, b) || Meet(b, a) != plainMeet(a, b) {
			t.Fatalf("Meet(%v, %v)", a, b)
		}
	}
}

// readable are tables of all levels, the order of reading being 9, 8, 3, 2, 20, 10, 30, 1, 7, 5, 6.
func readable() []api.Tab {
	return []api.Tab{
		tab(9, 0, "x", "y"), tab(8, 0, "a", "m"), tab(3, 0, "c", "z"), tab(2, 0, "a", "a"),
		tab(20, 1, "b", "d"), tab(10, 1, "f", "k"), tab(30, 1, "p", "q"),
		tab(1, 2, "a", "z"),
		tab(7, 3, "e", "f"),
		tab(5, 4, "a", "b"), tab(6, 4, "b\x00", "c"),
	}
}

// Le1: Order of tables of several levels, in whatever order they are handed in.
func TestOrder(t *testing.T) {
	r := newSource()
	want := []int{9, 8, 3, 2, 20, 10, 30, 1, 7, 5, 6}
	l := readable()
	for range 500 {
		r.Shuffle(len(l), func(i, k int) { l[i], l[k] = l[k], l[i] })
		if got := Order(l); !slices.Equal(got, want) {
			t.Fatalf("Order(%v): %v", l, got)
		}
	}
	// On level 0 it is the Num, on others the First, byte by byte.
	for level := range mostLevel + 1 {
		l := []api.Tab{tab(1, level, "\x80", "\xff"), tab(2, level, "a", "a"), tab(3, level, "ab", "b"), tab(4, level, "Z", "Z"), tab(mostCount, level, "z", "z")}
		want := []int{4, 2, 3, mostCount, 1}
		if level == 0 {
			want = []int{mostCount, 4, 3, 2, 1}
		}
		if got := Order(l); !slices.Equal(got, want) {
			t.Errorf("Order(%v): %v", l, got)
		}
		checkTabs(t, l)
	}
}

// Le1: Find, in the order of reading.
func TestFind(t *testing.T) {
	r := newSource()
	l := readable()
	for range 50 {
		r.Shuffle(len(l), func(i, k int) { l[i], l[k] = l[k], l[i] })
		for _, x := range []struct {
			key  string
			want []int
		}{
			{"", nil}, {"\x00", nil}, {"Z", nil}, {"{", nil}, {"\xff", nil}, {"z\x00", nil}, {strings.Repeat("z", 65), nil},
			{"a", []int{8, 2, 1, 5}}, {"a\x00", []int{8, 1, 5}}, {"aa", []int{8, 1, 5}},
			{"b", []int{8, 20, 1, 5}}, {"b\x00", []int{8, 20, 1, 6}},
			{"c", []int{8, 3, 20, 1, 6}}, {"d", []int{8, 3, 20, 1}}, {"d\x00", []int{8, 3, 1}},
			{"e", []int{8, 3, 1, 7}}, {"f", []int{8, 3, 10, 1, 7}}, {"f\x00", []int{8, 3, 10, 1}},
			{"k", []int{8, 3, 10, 1}}, {"l", []int{8, 3, 1}}, {"m", []int{8, 3, 1}}, {"m\x00", []int{3, 1}},
			{"pq", []int{3, 30, 1}}, {"x", []int{9, 3, 1}}, {"y", []int{9, 3, 1}}, {"z", []int{3, 1}},
			{strings.Repeat("a", 1000), []int{8, 1, 5}},
		} {
			if got := Find(l, x.key); !slices.Equal(got, x.want) {
				t.Fatalf("Find(%v, %q): %v; want %v", l, x.key, got, x.want)
			}
		}
	}
	checkTabs(t, l)
}

// Le1, Le2: many tables, those that may be, and with one that is turned.
func TestMany(t *testing.T) {
	r := newSource()
	wrong := wrongTabs()
	for range 200 {
		l := someTabs(r, 2+r.Intn(16)>>r.Intn(4))
		checkMay(t, l, true)
		if len(l) == 0 {
			continue
		}
		i, k := r.Intn(len(l)), r.Intn(len(l))
		switch r.Intn(4) {
		case 0:
			l[i] = wrong[r.Intn(len(wrong))]
		case 1:
			l[i].Num = l[k].Num
		case 2:
			l[i].Level = r.Intn(mostLevel + 1)
		default:
			l[i].First, l[i].Last = someSpan(r)
		}
		checkTabs(t, l)
	}
}
