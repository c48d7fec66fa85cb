package level

import (
	"math"
	"math/rand"
	"slices"
	"strings"
	"testing"

	"garner/api"
)

func sized(num, level, size int, first, last string) api.Tab {
	return api.Tab{Num: num, Level: level, Size: size, First: first, Last: last}
}

// checkJob asks for just this job, in whatever order the tables are handed in.
func checkJob(t *testing.T, l []api.Tab, base int, want api.Job) {
	t.Helper()
	if len(want.In) == 0 {
		t.Fatal("the test itself is wrong")
	}
	for _, l := range [][]api.Tab{l, backward(l), rolled(l)} {
		if got, ok := Pick(l, base); !ok || !sameJob(got, want) {
			t.Errorf("Pick(%v, %d): %v, %v; want %v", l, base, got, ok, want)
		}
	}
	checkTabs(t, l)
}

func checkNoJob(t *testing.T, l []api.Tab, base int) {
	t.Helper()
	for _, l := range [][]api.Tab{l, backward(l), rolled(l)} {
		if got, ok := Pick(l, base); ok || got.In != nil || got.Level != 0 || got.Drop {
			t.Errorf("Pick(%v, %d): %v, %v", l, base, got, ok)
		}
	}
	checkTabs(t, l)
}

// four are tables of level 0, as many as make it full.
func four() []api.Tab {
	return []api.Tab{tab(1, 0, "a", "b"), tab(2, 0, "c", "d"), tab(3, 0, "a", "a"), tab(4, 0, "g", "h")}
}

// The chapter's example.
func TestExample(t *testing.T) {
	checkJob(t, four(), 100, api.Job{In: []int{4, 3, 2, 1}, Level: 1, Drop: true})
}

// Le2: a base of 1 to 2^20.
func TestBase(t *testing.T) {
	for base, may := range map[int]bool{
		math.MinInt: false, -100: false, -1: false, 0: false, 1: true, 2: true, 100: true, mostBase - 1: true, mostBase: true, mostBase + 1: false, 2 * mostBase: false, 1 << 32: false, 1<<32 + 1: false, math.MaxInt: false,
	} {
		if may {
			checkJob(t, four(), base, api.Job{In: []int{4, 3, 2, 1}, Level: 1, Drop: true})
			checkJob(t, []api.Tab{sized(1, 1, mostSize, "a", "b")}, base, api.Job{In: []int{1}, Level: 2, Drop: true})
		} else {
			checkNoJob(t, four(), base)
			checkNoJob(t, []api.Tab{sized(1, 1, mostSize, "a", "b")}, base)
		}
		checkNoJob(t, four()[:3], base)
		checkNoJob(t, nil, base)
	}
}

// Le2: level 0 is full by how many tables it has, whatever their Sizes.
func TestLevel0(t *testing.T) {
	for _, size := range []int{0, 1, mostSize} {
		var l []api.Tab
		for i := range mostTabs {
			var want []int
			for n := i; n > 0; n-- {
				want = append(want, n)
			}
			if i < 4 {
				checkNoJob(t, l, 1)
				checkNoJob(t, l, mostBase)
			} else {
				checkJob(t, l, 1, api.Job{In: want, Level: 1, Drop: true})
				checkJob(t, l, mostBase, api.Job{In: want, Level: 1, Drop: true})
			}
			l = append(l, sized(1+i, 0, size, "k", "m"))
		}
	}
	// Three of level 0, and others beside.
	l := append(four()[:3], tab(9, 1, "a", "b"), tab(10, 2, "c", "d"), tab(11, 4, "a", "d"))
	checkNoJob(t, l, 100)
}

// Le2: a level above 0 is full by its Sizes together: base times 4^(Level - 1) are not too many, one more is.
func TestSizesTogether(t *testing.T) {
	for level, times := range map[int]int{1: 1, 2: 4, 3: 16} {
		for _, base := range []int{1, 2, 3, 100, 12345, mostBase} {
			room := base * times
			for _, parts := range [][]int{{room}, {0, room}, {room, 0}, {1, room - 1}, {room / 2, room - room/2}, {room / 3, room / 3, room - 2*(room/3)}} {
				var l []api.Tab
				for i, size := range parts {
					l = append(l, sized(9-i, level, size, numbered(i), numbered(i)))
				}
				checkNoJob(t, l, base)
				for i := range l {
					l[i].Size++
					checkJob(t, l, base, api.Job{In: []int{9}, Level: level + 1, Drop: true})
					l[i].Size--
				}
				checkNoJob(t, l, base)
			}
		}
	}
}

// Le2: as much as there may be, 64 tables of 2^30 bytes, is still more than a base.
func TestGreatSizes(t *testing.T) {
	for level := 1; level < mostLevel; level++ {
		var l []api.Tab
		for i := range mostTabs {
			l = append(l, sized(100-i, level, mostSize, numbered(i), numbered(i)))
			if i%9 == 0 {
				checkJob(t, l, mostBase, api.Job{In: []int{100}, Level: level + 1, Drop: true})
			}
		}
	}
}

// Le2: the last level is never full.
func TestLastLevel(t *testing.T) {
	var l []api.Tab
	for i := range mostTabs {
		l = append(l, sized(1+i, mostLevel, mostSize, numbered(i), numbered(i)))
	}
	for _, base := range []int{1, 100, mostBase} {
		checkNoJob(t, l, base)
	}
}

// Le2: of several levels that are full it is the least one.
func TestLeastFull(t *testing.T) {
	full := [][]api.Tab{
		four(),
		{sized(11, 1, 101, "m", "n"), sized(12, 1, 0, "i", "j")},
		{sized(21, 2, 401, "o", "p"), sized(22, 2, 0, "q", "r")},
		{sized(31, 3, 1601, "s", "t"), sized(32, 3, 0, "u", "v")},
		{sized(41, 4, mostSize, "w", "x")},
	}
	jobs := []api.Job{
		{In: []int{4, 3, 2, 1}, Level: 1, Drop: true},
		{In: []int{12}, Level: 2, Drop: true},
		{In: []int{21}, Level: 3, Drop: true},
		{In: []int{31}, Level: 4, Drop: true},
	}
	for which := range 1 << len(full) {
		var l []api.Tab
		var want api.Job
		for n := range full {
			if which>>n&1 == 0 {
				continue
			}
			l = append(l, full[n]...)
			if n < len(jobs) && want.In == nil {
				want = jobs[n]
			}
		}
		if want.In == nil {
			checkNoJob(t, l, 100)
		} else {
			checkJob(t, l, 100, want)
		}
	}
}

// Le2: of a level above 0 the one of the least First, whatever its Num and its Size.
func TestLeastFirst(t *testing.T) {
	for level := 1; level < mostLevel; level++ {
		checkJob(t, []api.Tab{sized(1, level, mostSize, "c", "d"), sized(9, level, 0, "b", "b"), sized(5, level, 7, "e", "f")}, 1,
			api.Job{In: []int{9}, Level: level + 1, Drop: true})
		checkJob(t, []api.Tab{sized(1, level, mostSize, "\x80", "\xff"), sized(9, level, 0, "z", "\x7f"), sized(5, level, 7, "za\xff", "za\xff")}[:2], 1,
			api.Job{In: []int{9}, Level: level + 1, Drop: true})
	}
}

// Le2: those of the next level that meet the span, also where they meet none of the tables themselves.
func TestNextLevel(t *testing.T) {
	// The span of level 0 goes from b to h, with nothing between d and g.
	l := []api.Tab{tab(1, 0, "b", "c"), tab(2, 0, "c", "d"), tab(3, 0, "b", "b"), tab(4, 0, "g", "h"),
		tab(55, 1, "a", "a\xff"), tab(54, 1, "d\x00", "dd"), tab(53, 1, "e", "f"), tab(52, 1, "fff", "z"), tab(51, 1, "z\x00", "zz")}
	checkJob(t, l, 100, api.Job{In: []int{4, 3, 2, 1, 54, 53, 52}, Level: 1, Drop: true})
	// They share just one key with it, at its beginning and at its end.
	l = append(four(), tab(11, 1, "0", "a"), tab(12, 1, "h", "z"))
	checkJob(t, l, 100, api.Job{In: []int{4, 3, 2, 1, 11, 12}, Level: 1, Drop: true})
	// They don't meet it.
	l = append(four(), tab(11, 1, "0", "Z"), tab(12, 1, "h\x00", "z"))
	checkJob(t, l, 100, api.Job{In: []int{4, 3, 2, 1}, Level: 1, Drop: true})
	// One is greater than it.
	l = append(four(), tab(11, 1, "0", "z"))
	checkJob(t, l, 100, api.Job{In: []int{4, 3, 2, 1, 11}, Level: 1, Drop: true})
	for level := 1; level < mostLevel; level++ {
		// The span is that of the one table, not that of all of the level.
		l = []api.Tab{sized(1, level, mostSize, "d", "f"), sized(2, level, mostSize, "m", "p"),
			tab(34, level+1, "a", "c"), tab(33, level+1, "cc", "d"), tab(32, level+1, "e", "e"), tab(31, level+1, "f", "n"), tab(30, level+1, "o", "p")}
		checkJob(t, l, 100, api.Job{In: []int{1, 33, 32, 31}, Level: level + 1, Drop: true})
	}
}

// Le2: tables of other levels are not merged, though they meet.
func TestOtherLevels(t *testing.T) {
	l := []api.Tab{tab(1, 0, "a", "z"), tab(2, 0, "a", "z"), tab(3, 0, "d", "e"),
		sized(11, 1, 101, "d", "e"), tab(12, 1, "f", "g"), tab(21, 2, "a", "d"), tab(22, 2, "e\x00", "z"), tab(31, 3, "p", "q"), tab(41, 4, "f", "z")}
	checkJob(t, l, 100, api.Job{In: []int{11, 21}, Level: 2, Drop: true})
	l = append(l, tab(4, 0, "b", "b"))
	checkJob(t, l, 100, api.Job{In: []int{4, 3, 2, 1, 11, 12}, Level: 1, Drop: false})
}

// Le2: Drop, if no table of a level above that meets one of those merged.
func TestDrop(t *testing.T) {
	base := append(four(), tab(11, 1, "e", "e\xff"), tab(12, 1, "h", "j"))
	in := []int{4, 3, 2, 1, 11, 12}
	for above := 2; above <= mostLevel; above++ {
		for _, x := range []struct {
			first, last string
			drop        bool
		}{
			{"0", "Z", true}, {"k", "z", true}, {"j\x00", "j\x00", true},
			// Within the span, but between those merged.
			{"d\x00", "d\xff", true}, {"f", "f", true}, {"f", "fff", true},
			// It meets one of level 0.
			{"0", "a", false}, {"a", "a", false}, {"aa", "aa", false}, {"d", "d\xff", false}, {"c", "c", false}, {"g", "g", false}, {"f", "g", false},
			// It meets one of level 1.
			{"dd", "e", false}, {"e\xff", "f", false}, {"ee", "ee", false}, {"i", "i", false}, {"j", "z", false},
			{"0", "z", false},
		} {
			l := append(slices.Clone(base), tab(99, above, x.first, x.last))
			checkJob(t, l, 100, api.Job{In: in, Level: 1, Drop: x.drop})
			// Beside one that doesn't meet any.
			l = append(l, tab(98, mostLevel+2-above, "zzz", "zzzz"))
			checkJob(t, l, 100, api.Job{In: in, Level: 1, Drop: x.drop})
		}
	}
	for level := 1; level < mostLevel; level++ {
		for above := range mostLevel + 1 {
			l := []api.Tab{sized(1, level, mostSize, "d", "f"), tab(2, level+1, "a", "d")}
			if above == level {
				l = append(l, tab(9, above, "f\x00", "g"))
			} else {
				l = append(l, tab(9, above, "f", "g"))
			}
			want := api.Job{In: []int{1, 2}, Level: level + 1, Drop: above <= level+1}
			if above == level+1 {
				want.In = []int{1, 2, 9}
			}
			checkJob(t, l, 100, want)
		}
	}
}

// Le2: nothing is merged of tables that may not be, though a level would be full.
func TestPickRefuses(t *testing.T) {
	for _, x := range wrongTabs() {
		checkNoJob(t, append(four(), x), 100)
	}
	for _, l := range [][]api.Tab{
		append(four(), tab(4, 3, "x", "y")),
		append(four(), tab(5, 2, "x", "y"), tab(6, 2, "y", "z")),
		{sized(1, 1, mostSize, "a", "b"), sized(1, 2, 0, "c", "d")},
		{sized(1, 1, mostSize, "a", "b"), sized(2, 1, mostSize, "b", "d")},
	} {
		checkMay(t, l, false)
		checkNoJob(t, l, 100)
	}
}

// Le2: All: all tables in the order of reading, the greatest level, 1 at least, and Drop.
func TestAll(t *testing.T) {
	for _, x := range []struct {
		l    []api.Tab
		want api.Job
	}{
		{four(), api.Job{In: []int{4, 3, 2, 1}, Level: 1, Drop: true}},
		{four()[:1], api.Job{In: []int{1}, Level: 1, Drop: true}},
		{append(four(), tab(9, 1, "x", "y")), api.Job{In: []int{4, 3, 2, 1, 9}, Level: 1, Drop: true}},
		{append(four(), tab(9, 3, "x", "y"), tab(8, 2, "a", "z")), api.Job{In: []int{4, 3, 2, 1, 8, 9}, Level: 3, Drop: true}},
		{[]api.Tab{tab(1, 4, "a", "b")}, api.Job{In: []int{1}, Level: 4, Drop: true}},
		{[]api.Tab{tab(2, 2, "c", "d"), tab(1, 2, "a", "b")}, api.Job{In: []int{1, 2}, Level: 2, Drop: true}},
		{readable(), api.Job{In: []int{9, 8, 3, 2, 20, 10, 30, 1, 7, 5, 6}, Level: 4, Drop: true}},
	} {
		for _, l := range [][]api.Tab{x.l, backward(x.l), rolled(x.l)} {
			if got, ok := All(l); !ok || !sameJob(got, x.want) {
				t.Errorf("All(%v): %v, %v; want %v", l, got, ok, x.want)
			}
		}
	}
	for _, x := range wrongTabs() {
		if got, ok := All(append(four(), x)); ok || got.In != nil || got.Level != 0 || got.Drop {
			t.Errorf("All: %v, %v", got, ok)
		}
	}
}

// done is tables with what comes of a job, a table of that Num, in the place of what was merged, and what was merged.
func done(l []api.Tab, j api.Job, num int) (then, merged []api.Tab) {
	for _, x := range l {
		if slices.Contains(j.In, x.Num) {
			merged = append(merged, x)
		} else {
			then = append(then, x)
		}
	}
	made := plainHull(merged)
	made.Num, made.Level, made.Size = num, j.Level, 0
	for _, x := range merged {
		made.Size = min(made.Size+x.Size, mostSize)
	}
	return append(then, made), merged
}

// keysOf are some of those that a table may have.
func keysOf(r *rand.Rand, x api.Tab) []string {
	keys := []string{x.First, x.Last}
	for range 10 {
		key := someKey(r)
		if !plainBelow(key, x.First) && !plainBelow(x.Last, key) {
			keys = append(keys, key)
		}
	}
	if key := x.First + "\x00"; !plainBelow(x.Last, key) {
		keys = append(keys, key)
	}
	return keys
}

// checkFollows asks what Le3 says of a job, and is the tables then.
func checkFollows(t *testing.T, r *rand.Rand, l []api.Tab, j api.Job, num int) []api.Tab {
	t.Helper()
	then, merged := done(l, j, num)
	if len(merged) != len(j.In) {
		t.Fatalf("%v of %v: not each is one of the tables", j, l)
	}
	if Check(then) != api.OK || !plainMayBe(then) {
		t.Fatalf("%v of %v: %v may not be", j, l, then)
	}
	for _, x := range merged {
		for _, key := range keysOf(r, x) {
			if !slices.Contains(Find(then, key), num) {
				t.Fatalf("%v of %v: %q is not found in %d", j, l, key, num)
			}
		}
	}
	return then
}

// Le3: with what comes of a job tables may be again, one job behind the other, till nothing is merged any more.
func TestWhatFollows(t *testing.T) {
	r := newSource()
	jobs := 0
	for range 2000 {
		l := someTabs(r, 1+r.Intn(14))
		base := 1 + r.Intn(mostBase)>>r.Intn(21)
		if j, ok := All(l); ok {
			checkFollows(t, r, l, j, mostCount)
		}
		for num := 1 << 20; ; num++ {
			j, ok := Pick(l, base)
			if !ok {
				break
			}
			jobs++
			l = checkFollows(t, r, l, j, num)
			checkPick(t, l, base)
			if num > 1<<20+1000 {
				t.Fatal("it does not end")
			}
		}
		for n := range mostLevel {
			if plainIsFull(l, n, base) {
				t.Fatalf("nothing is merged of %v by %d, though level %d is full", l, base, n)
			}
		}
	}
	if jobs < 2000 {
		t.Errorf("only %d jobs", jobs)
	}
}

// Le2, Le3: what stays beside a job on its level does not meet its span; what is newer is read ahead of it.
func TestJobIsWhole(t *testing.T) {
	r := newSource()
	for range 1000 {
		l := someTabs(r, 1+r.Intn(14))
		j, ok := Pick(l, 1+r.Intn(1000))
		if !ok {
			continue
		}
		order := Order(l)
		at := -1
		for _, num := range j.In {
			k := slices.Index(order, num)
			if k <= at {
				t.Fatalf("%v of %v: In is not in the order of reading", j, l)
			}
			at = k
		}
		_, merged := done(l, j, 1)
		for _, x := range l {
			if slices.Contains(j.In, x.Num) {
				continue
			}
			for _, y := range merged {
				if plainMeet(x, y) && x.Level == j.Level {
					t.Fatalf("%v of %v: %v stays, and meets %v", j, l, x, y)
				}
				if plainMeet(x, y) && x.Level > j.Level && j.Drop {
					t.Fatalf("%v of %v: %v may have what was dropped of %v", j, l, x, y)
				}
			}
		}
	}
}

// R3: no call writes to what it is handed, nor behind it.
func TestHandedStays(t *testing.T) {
	r := newSource()
	for i := range 1000 {
		l := append(someTabs(r, 1+r.Intn(14)), tab(77777, 1, "behind", "behind"), tab(0, 0, "", ""))
		kept := slices.Clone(l)
		whole := l
		l = l[: len(l)-2 : len(l)]
		if i%3 == 0 && len(l) > 0 {
			l[r.Intn(len(l))] = wrongTabs()[r.Intn(len(wrongTabs()))]
			kept = slices.Clone(whole)
		}
		Check(l)
		spoil(Order(l))
		spoil(Find(l, someKey(r)))
		for _, base := range []int{0, 1, 1000, mostBase} {
			j, _ := Pick(l, base)
			spoil(j.In)
		}
		j, _ := All(l)
		spoil(j.In)
		if len(l) > 1 {
			Meet(l[0], l[1])
		}
		if !slices.Equal(whole, kept) {
			t.Fatal("what was handed in was written to")
		}
	}
}

// spoil turns all that can be reached from l.
func spoil(l []int) {
	l = l[:cap(l)]
	for i := range l {
		l[i] = -7
	}
}

// R3, R4: what is answered is new, and the same again, whatever was done to other answers, to the tables, and to the memory around.
func TestAnswersAreNew(t *testing.T) {
	r := newSource()
	for range 1000 {
		l := someTabs(r, 1+r.Intn(14))
		other := append(slices.Clone(l), tab(1, 1, "a", "b"))[:len(l)]
		for i := range other {
			other[i].First, other[i].Last = strings.Clone(l[i].First), strings.Clone(l[i].Last)
		}
		kept := slices.Clone(l)
		key, base := someKey(r), 1+r.Intn(mostBase)>>r.Intn(21)
		ask := func(l []api.Tab) [][]int {
			picked, _ := Pick(l, base)
			all, _ := All(l)
			return [][]int{Order(l), Find(l, key), picked.In, all.In}
		}
		first, second := ask(l), ask(l)
		for _, nums := range second {
			spoil(nums)
		}
		third := ask(other)
		for i := range l {
			l[i] = api.Tab{}
		}
		want := ask(kept)
		if !slices.EqualFunc(first, want, slices.Equal) || !slices.EqualFunc(third, want, slices.Equal) {
			t.Fatal("answers share memory, or are not the same again")
		}
		for i := range first {
			spoil(first[i])
			if !slices.EqualFunc(first[i+1:], want[i+1:], slices.Equal) {
				t.Fatal("lists of answers share memory")
			}
		}
	}
}

func BenchmarkPick(b *testing.B) {
	var l []api.Tab
	for i := range mostTabs {
		l = append(l, sized(1+i, i%5, 1000, numbered(i), numbered(i)))
	}
	for b.Loop() {
		Pick(l, 1000)
	}
}
