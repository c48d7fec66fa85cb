package level

import (
	"math/rand"
	"slices"
	"strconv"
	"strings"

	"garner/api"
)

// The chapter's words done plainly, with numbers of their own; they share nothing with the package.

const (
	mostCount = 1<<31 - 1
	mostTabs  = 64
	mostLevel = 4
	mostSize  = 1 << 30
	mostKey   = 64
	mostBase  = 1 << 20
)

// plainBelow holds keys against each other byte by byte.
func plainBelow(a, b string) bool {
	for i := 0; i < len(a) && i < len(b); i++ {
		if a[i] != b[i] {
			return a[i] < b[i]
		}
	}
	return len(a) < len(b)
}

func plainMeet(a, b api.Tab) bool {
	return !plainBelow(a.Last, b.First) && !plainBelow(b.Last, a.First)
}

func plainAlone(x api.Tab) bool {
	if x.Num < 1 || x.Num > mostCount || x.Level < 0 || x.Level > mostLevel || x.Size < 0 || x.Size > mostSize {
		return false
	}
	for _, key := range []string{x.First, x.Last} {
		if len(key) < 1 || len(key) > mostKey {
			return false
		}
	}
	return !plainBelow(x.Last, x.First)
}

func plainMayBe(l []api.Tab) bool {
	if len(l) > mostTabs {
		return false
	}
	for i, x := range l {
		if !plainAlone(x) {
			return false
		}
		for k, y := range l {
			if i != k && (x.Num == y.Num || x.Level == y.Level && x.Level > 0 && plainMeet(x, y)) {
				return false
			}
		}
	}
	return true
}

// plainRead takes the tables one by one: level by level that which none of those left is ahead of.
func plainRead(l []api.Tab) []api.Tab {
	var read []api.Tab
	for n := 0; n <= mostLevel; n++ {
		left := plainOfLevel(l, n)
		for len(left) > 0 {
			next := 0
			for i, x := range left {
				if n == 0 && x.Num > left[next].Num || n > 0 && plainBelow(x.First, left[next].First) {
					next = i
				}
			}
			read = append(read, left[next])
			left = slices.Delete(left, next, next+1)
		}
	}
	return read
}

func plainOfLevel(l []api.Tab, n int) []api.Tab {
	var here []api.Tab
	for _, x := range l {
		if x.Level == n {
			here = append(here, x)
		}
	}
	return here
}

func plainNums(l []api.Tab) []int {
	n := make([]int, len(l))
	for i, x := range l {
		n[i] = x.Num
	}
	return n
}

func plainOrder(l []api.Tab) []int {
	if !plainMayBe(l) {
		return nil
	}
	return plainNums(plainRead(l))
}

func plainFind(l []api.Tab, key string) []int {
	if !plainMayBe(l) {
		return nil
	}
	var found []int
	for _, x := range plainRead(l) {
		if !plainBelow(key, x.First) && !plainBelow(x.Last, key) {
			found = append(found, x.Num)
		}
	}
	return found
}

func plainIsFull(l []api.Tab, n, base int) bool {
	if n == 0 {
		return len(plainOfLevel(l, 0)) >= 4
	}
	sum := 0
	for _, x := range plainOfLevel(l, n) {
		sum += x.Size
	}
	return sum > base*[]int{0, 1, 4, 16}[n]
}

// plainFull is the least level that is full, or -1.
func plainFull(l []api.Tab, base int) int {
	for n := 0; n < mostLevel; n++ {
		if plainIsFull(l, n, base) {
			return n
		}
	}
	return -1
}

// plainHull goes from the least First to the greatest Last.
func plainHull(l []api.Tab) api.Tab {
	hull := l[0]
	for _, x := range l {
		if plainBelow(x.First, hull.First) {
			hull.First = x.First
		}
		if plainBelow(hull.Last, x.Last) {
			hull.Last = x.Last
		}
	}
	return hull
}

func plainPick(l []api.Tab, base int) (api.Job, bool) {
	if !plainMayBe(l) || base < 1 || base > mostBase {
		return api.Job{}, false
	}
	full := plainFull(l, base)
	if full < 0 {
		return api.Job{}, false
	}
	from := plainRead(plainOfLevel(l, full))
	if full > 0 {
		from = from[:1:1]
	}
	span := plainHull(from)
	in := from
	for _, x := range plainRead(plainOfLevel(l, full+1)) {
		if plainMeet(x, span) {
			in = append(in, x)
		}
	}
	job := api.Job{In: plainNums(in), Level: full + 1, Drop: true}
	for _, x := range l {
		for _, y := range in {
			if x.Level > full+1 && plainMeet(x, y) {
				job.Drop = false
			}
		}
	}
	return job, true
}

func plainAll(l []api.Tab) (api.Job, bool) {
	if !plainMayBe(l) || len(l) == 0 {
		return api.Job{}, false
	}
	job := api.Job{In: plainOrder(l), Level: 1, Drop: true}
	for _, x := range l {
		job.Level = max(job.Level, x.Level)
	}
	return job, true
}

func sameJob(a, b api.Job) bool {
	return slices.Equal(a.In, b.In) && a.Level == b.Level && a.Drop == b.Drop
}

func newSource() *rand.Rand { return rand.New(rand.NewSource(15)) }

// someKey is a key that may be, mostly of few letters, so that spans share ends.
func someKey(r *rand.Rand) string {
	letters := "\x00ab\x7f\x80\xff"
	b := make([]byte, 1+r.Intn(mostKey)>>r.Intn(7))
	for i := range b {
		b[i] = letters[r.Intn(len(letters))]
	}
	return string(b)
}

// someSpans are n at most that don't meet, the lesser ones first; some of one key.
func someSpans(r *rand.Rand, n int) [][2]string {
	keys := make([]string, 2*n)
	for i := range keys {
		keys[i] = someKey(r)
	}
	slices.Sort(keys)
	keys = slices.Compact(keys)
	var spans [][2]string
	for len(keys) > 1 {
		last := r.Intn(2)
		spans = append(spans, [2]string{keys[0], keys[last]})
		keys = keys[last+1:]
	}
	return spans[:min(len(spans), n)]
}

// someTabs are tables that may be, on all levels, n at most of each, shuffled.
func someTabs(r *rand.Rand, n int) []api.Tab {
	var l []api.Tab
	num := r.Intn(1000)
	shift := r.Intn(31)
	for level := range mostLevel + 1 {
		for _, span := range someSpans(r, r.Intn(n+1)) {
			num += 1 + r.Intn(9)
			l = append(l, api.Tab{Num: num, Level: level, Size: r.Intn(mostSize+1) >> shift, First: span[0], Last: span[1]})
		}
	}
	for i := range l {
		if l[i].Level == 0 && r.Intn(2) == 0 {
			// On level 0 they may meet.
			l[i].First, l[i].Last = someSpan(r)
		}
	}
	r.Shuffle(len(l), func(i, k int) { l[i].Num, l[k].Num = l[k].Num, l[i].Num })
	r.Shuffle(len(l), func(i, k int) { l[i], l[k] = l[k], l[i] })
	return l[:min(len(l), mostTabs)]
}

func someSpan(r *rand.Rand) (first, last string) {
	a, b := someKey(r), someKey(r)
	if plainBelow(b, a) {
		a, b = b, a
	}
	return a, b
}

// wrongTabs are tables that may not be even alone, each by its own fault.
func wrongTabs() []api.Tab {
	ok := api.Tab{Num: 999, Level: 4, Size: 7, First: "y", Last: "z"}
	var l []api.Tab
	add := func(turn func(x *api.Tab)) {
		x := ok
		turn(&x)
		l = append(l, x)
	}
	for _, n := range []int{-1 << 63, -1, 0, mostCount + 1, 1<<63 - 1} {
		add(func(x *api.Tab) { x.Num = n })
	}
	for _, n := range []int{-1 << 63, -1, mostLevel + 1, 1<<63 - 1} {
		add(func(x *api.Tab) { x.Level = n })
	}
	for _, n := range []int{-1 << 63, -1, mostSize + 1, 1<<63 - 1} {
		add(func(x *api.Tab) { x.Size = n })
	}
	add(func(x *api.Tab) { x.First = "" })
	add(func(x *api.Tab) { x.Last = "" })
	add(func(x *api.Tab) { x.First, x.Last = "", "" })
	add(func(x *api.Tab) { x.First = strings.Repeat("y", mostKey+1) })
	add(func(x *api.Tab) { x.Last = strings.Repeat("z", mostKey+1) })
	add(func(x *api.Tab) { x.First, x.Last = "z", "y" })
	add(func(x *api.Tab) { x.First, x.Last = "z\x00", "z" })
	add(func(x *api.Tab) { x.First, x.Last = "\x80", "\x7f" })
	add(func(x *api.Tab) { *x = api.Tab{} })
	return l
}

// numbered is a key by which numbers are in order.
func numbered(n int) string {
	s := strconv.Itoa(n)
	return strings.Repeat("0", 8-len(s)) + s
}
