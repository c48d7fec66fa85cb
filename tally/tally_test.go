package tally

import (
	"math"
	"math/rand"
	"slices"
	"testing"

	"garner/api"
)

// same asks for one answer; beside an error there must be no tally.
func same(t testing.TB, what string, got []api.Share, err api.Errno, want []api.Share, wantErr api.Errno) {
	t.Helper()
	if err != wantErr {
		t.Fatalf("%s: error %d, want %d", what, err, wantErr)
	}
	if err != api.OK && got != nil {
		t.Fatalf("%s: a tally of %d segments beside error %d", what, len(got), err)
	}
	if !slices.Equal(got, want) {
		t.Fatalf("%s: %v, want %v", what, shortened(got), shortened(want))
	}
}

func shortened(l []api.Share) []api.Share { return l[:min(len(l), 20)] }

func add(t testing.TB, what string, l []api.Share, p []api.Point, want []api.Share, wantErr api.Errno) {
	t.Helper()
	got, err := Add(l, p...)
	same(t, "Add "+what, got, err, want, wantErr)
}

func sub(t testing.TB, what string, l []api.Share, p []api.Point, want []api.Share, wantErr api.Errno) {
	t.Helper()
	got, err := Sub(l, p...)
	same(t, "Sub "+what, got, err, want, wantErr)
}

// join asks in both orders.
func join(t testing.TB, what string, a, b []api.Share, want []api.Share, wantErr api.Errno) {
	t.Helper()
	got, err := Join(a, b)
	same(t, "Join "+what, got, err, want, wantErr)
	got, err = Join(b, a)
	same(t, "Join "+what+", the other way round", got, err, want, wantErr)
}

// The chapter's example.
func TestExample(t *testing.T) {
	l, err := Of([]api.Point{{Seg: 3, Len: 5}, {Seg: 3, Len: 7}})
	same(t, "Of", l, err, []api.Share{{Seg: 3, Bytes: 12}}, api.OK)
	if n := Get(l, 3); n != 12 {
		t.Errorf("Get: %d", n)
	}
}

// Ta1: tallies that may be.
func TestCheckOfRight(t *testing.T) {
	for _, l := range [][]api.Share{
		nil,
		{},
		{{Seg: 1, Bytes: 1}},
		{{Seg: 1, Bytes: mostBytes}},
		{{Seg: mostCount, Bytes: 1}},
		{{Seg: mostCount, Bytes: mostBytes}},
		{{Seg: 1, Bytes: 2}, {Seg: 2, Bytes: 1}},
		{{Seg: 1, Bytes: 1}, {Seg: mostCount, Bytes: 1}},
		{{Seg: mostCount - 1, Bytes: mostBytes - 1}, {Seg: mostCount, Bytes: mostBytes}},
		{{Seg: 3, Bytes: 7}, {Seg: 4, Bytes: 7}, {Seg: 300, Bytes: 7}, {Seg: 70000, Bytes: 7}},
		manySegs(mostShares - 1),
		manySegs(mostShares),
	} {
		if err := Check(l); err != api.OK {
			t.Errorf("Check(%v): %d", shortened(l), err)
		}
	}
}

// Ta1: tallies that may not be.
func TestCheckOfWrong(t *testing.T) {
	for _, l := range wrongTallies() {
		if err := Check(l); err != api.ErrArg {
			t.Errorf("Check(%v): %d", shortened(l), err)
		}
	}
}

// Ta1: one share that may not be, or does not rise, wherever it stands.
func TestCheckOfOneWrong(t *testing.T) {
	const n = 40
	for at := range n {
		for _, bad := range []api.Share{
			{Seg: 2 * (at + 1), Bytes: 0}, {Seg: 2 * (at + 1), Bytes: -1}, {Seg: 2 * (at + 1), Bytes: mostBytes + 1},
			{Seg: 2 * at, Bytes: 1}, {Seg: -2 * (at + 1), Bytes: 1}, {Seg: mostCount + 1, Bytes: 1}, {Seg: math.MinInt, Bytes: 1},
		} {
			l := manySegs(n)
			l[at] = bad
			if err := Check(l); err != api.ErrArg {
				t.Fatalf("Check with %v at %d: %d", bad, at, err)
			}
		}
	}
}

// Ta1: Check as the words say.
func TestCheckAsTheWordsSay(t *testing.T) {
	r := newSource()
	seen := map[bool]int{}
	for range 20000 {
		l := someTally(r, r.Intn(6))
		if len(l) > 0 && r.Intn(2) == 0 {
			at := r.Intn(len(l))
			l[at].Seg = l[at].Seg + r.Intn(7) - 3
			l[at].Bytes = l[at].Bytes + r.Intn(7) - 3
		}
		want := api.OK
		if !plainMayBe(l) {
			want = api.ErrArg
		}
		if err := Check(l); err != want {
			t.Fatalf("Check(%v): %d, want %d", l, err, want)
		}
		seen[want == api.OK]++
	}
	if seen[true] < 1000 || seen[false] < 1000 {
		t.Errorf("too few of one kind: %v", seen)
	}
}

// Ta1: Add of no points, of new segments wherever they stand, and of ones that are there.
func TestAddKnown(t *testing.T) {
	l := []api.Share{{Seg: 3, Bytes: 10}, {Seg: 5, Bytes: 20}}
	for _, c := range []struct {
		what string
		l    []api.Share
		p    []api.Point
		want []api.Share
	}{
		{"nothing to nothing", nil, nil, nil},
		{"nothing", l, nil, l},
		{"no list", l, []api.Point{}, l},
		{"to nothing", nil, []api.Point{{Seg: 7, Len: 2}}, []api.Share{{Seg: 7, Bytes: 2}}},
		{"to an empty list", []api.Share{}, []api.Point{{Seg: 7, Len: 2}}, []api.Share{{Seg: 7, Bytes: 2}}},
		{"ahead of all", l, []api.Point{{Seg: 1, Len: 2}}, []api.Share{{Seg: 1, Bytes: 2}, {Seg: 3, Bytes: 10}, {Seg: 5, Bytes: 20}}},
		{"between", l, []api.Point{{Seg: 4, Len: 2}}, []api.Share{{Seg: 3, Bytes: 10}, {Seg: 4, Bytes: 2}, {Seg: 5, Bytes: 20}}},
		{"behind all", l, []api.Point{{Seg: 6, Len: 2}}, []api.Share{{Seg: 3, Bytes: 10}, {Seg: 5, Bytes: 20}, {Seg: 6, Bytes: 2}}},
		{"to the first", l, []api.Point{{Seg: 3, Len: 2}}, []api.Share{{Seg: 3, Bytes: 12}, {Seg: 5, Bytes: 20}}},
		{"to the last", l, []api.Point{{Seg: 5, Len: 2}}, []api.Share{{Seg: 3, Bytes: 10}, {Seg: 5, Bytes: 22}}},
		{"the last segment of all", l, []api.Point{{Seg: mostCount, At: mostCount, Len: mostValue}}, []api.Share{{Seg: 3, Bytes: 10}, {Seg: 5, Bytes: 20}, {Seg: mostCount, Bytes: mostValue}}},
		{"one several times", l, []api.Point{{Seg: 3, Len: 2}, {Seg: 3, At: 9, Len: 3}, {Seg: 3, Len: 2}}, []api.Share{{Seg: 3, Bytes: 17}, {Seg: 5, Bytes: 20}}},
		{"a new one several times", l, []api.Point{{Seg: 4, Len: 2}, {Seg: 6, Len: 1}, {Seg: 4, Len: 3}}, []api.Share{{Seg: 3, Bytes: 10}, {Seg: 4, Bytes: 5}, {Seg: 5, Bytes: 20}, {Seg: 6, Bytes: 1}}},
		{"falling ones", l, []api.Point{{Seg: 6, Len: 1}, {Seg: 5, Len: 2}, {Seg: 4, Len: 3}, {Seg: 3, Len: 4}, {Seg: 1, Len: 5}}, []api.Share{{Seg: 1, Bytes: 5}, {Seg: 3, Bytes: 14}, {Seg: 4, Bytes: 3}, {Seg: 5, Bytes: 22}, {Seg: 6, Bytes: 1}}},
	} {
		add(t, c.what, c.l, c.p, c.want, api.OK)
	}
}

// Ta1: a point weighs its Len; neither At nor Sum, nor that its place is told of twice, makes any difference.
func TestAddWeighsLen(t *testing.T) {
	for _, size := range []int{1, 2, 127, 128, 255, 256, 4095, 4096} {
		for _, at := range []int{0, 1, mostCount} {
			for _, sum := range []uint32{0, 1, math.MaxUint32} {
				p := api.Point{Seg: 2, At: at, Len: size, Sum: sum}
				add(t, "one", nil, []api.Point{p}, []api.Share{{Seg: 2, Bytes: size}}, api.OK)
				add(t, "it twice", nil, []api.Point{p, p}, []api.Share{{Seg: 2, Bytes: 2 * size}}, api.OK)
				sub(t, "one", []api.Share{{Seg: 2, Bytes: size + 1}}, []api.Point{p}, []api.Share{{Seg: 2, Bytes: 1}}, api.OK)
			}
		}
	}
}

// Ta1: points that weigh nothing turn nothing, whether their segments are there or not, also where a tally is full.
func TestPointsThatWeighNothing(t *testing.T) {
	p := []api.Point{{Seg: 1}, {Seg: 2, At: 5, Sum: 7}, {Seg: 3}, {Seg: 3, At: mostCount}, {Seg: mostCount}}
	for _, l := range [][]api.Share{nil, {{Seg: 2, Bytes: 1}}, {{Seg: 2, Bytes: mostBytes}, {Seg: 4, Bytes: 1}}, manySegs(mostShares)} {
		add(t, "what weighs nothing", l, p, l, api.OK)
		sub(t, "what weighs nothing", l, p, l, api.OK)
	}
	of, err := Of(p)
	same(t, "Of what weighs nothing", of, err, nil, api.OK)
	add(t, "some of which weigh nothing", nil, []api.Point{{Seg: 2}, {Seg: 2, Len: 4}, {Seg: 1}, {Seg: 2}}, []api.Share{{Seg: 2, Bytes: 4}}, api.OK)
	sub(t, "nothing of one that is gone by then", []api.Share{{Seg: 2, Bytes: 4}}, []api.Point{{Seg: 2, Len: 4}, {Seg: 2}}, nil, api.OK)
}

// Ta1, P1: a tally that may not be is ErrArg, whatever the points are.
func TestWrongTallies(t *testing.T) {
	for _, l := range wrongTallies() {
		for _, p := range [][]api.Point{nil, {{Seg: 1, Len: 1}}, {{Seg: 9, Len: 1}}, {{}}, {{Seg: 1}}, {{Seg: mostCount, Len: mostValue}}} {
			add(t, "to what may not be", l, p, nil, api.ErrArg)
			sub(t, "of what may not be", l, p, nil, api.ErrArg)
		}
		for _, other := range [][]api.Share{nil, {{Seg: 1, Bytes: 1}}, {{Seg: 1, Bytes: mostBytes}}, manySegs(mostShares), l} {
			join(t, "with what may not be", l, other, nil, api.ErrArg)
		}
		for _, s := range l[:min(len(l), 3)] {
			if n := Get(l, s.Seg); n != 0 {
				t.Errorf("Get(%v, %d): %d", shortened(l), s.Seg, n)
			}
		}
	}
}

// Ta1, P1: a point that may not be is ErrArg, wherever it stands, ahead of ErrFull and of ErrNone.
func TestWrongPoints(t *testing.T) {
	full := []api.Share{{Seg: 1, Bytes: mostBytes}}
	for _, bad := range wrongPoints() {
		for at := range 4 {
			p := []api.Point{{Seg: 1, Len: 1}, {Seg: 2, Len: mostValue}, {Seg: mostCount, Len: 9}}
			p = slices.Insert(p, at, bad)
			for _, l := range [][]api.Share{nil, {{Seg: 1, Bytes: 9}}, full, manySegs(mostShares)} {
				add(t, "with a point that may not be", l, p, nil, api.ErrArg)
				sub(t, "with a point that may not be", l, p, nil, api.ErrArg)
			}
			of, err := Of(p)
			same(t, "Of with a point that may not be", of, err, nil, api.ErrArg)
		}
	}
}

// Ta1: up to 2^40 bytes, and one more.
func TestAddUpToBytes(t *testing.T) {
	beside := api.Share{Seg: 1, Bytes: 5}
	for _, size := range []int{1, 2, 4095, 4096} {
		l := []api.Share{beside, {Seg: 3, Bytes: mostBytes - size}, {Seg: 8, Bytes: mostBytes}}
		want := []api.Share{beside, {Seg: 3, Bytes: mostBytes}, {Seg: 8, Bytes: mostBytes}}
		add(t, "up to 2^40 bytes", l, []api.Point{{Seg: 3, Len: size}}, want, api.OK)
		add(t, "one more", l, []api.Point{{Seg: 3, Len: size}, {Seg: 3, Len: 1}}, nil, api.ErrFull)
		add(t, "one more, ahead of others", l, []api.Point{{Seg: 3, Len: 1}, {Seg: 3, Len: size}, {Seg: 1, Len: 1}}, nil, api.ErrFull)
		add(t, "one more to another", l, []api.Point{{Seg: 1, Len: 1}, {Seg: 8, Len: 1}}, nil, api.ErrFull)
		if size < mostValue {
			add(t, "one more at once", l, []api.Point{{Seg: 3, Len: size + 1}}, nil, api.ErrFull)
		}
	}
	many := slices.Repeat([]api.Point{{Seg: 3, Len: mostValue}}, 1000)
	add(t, "many, up to 2^40 bytes", []api.Share{{Seg: 3, Bytes: mostBytes - 1000*mostValue}}, many, []api.Share{{Seg: 3, Bytes: mostBytes}}, api.OK)
	add(t, "many, one more", []api.Share{{Seg: 3, Bytes: mostBytes - 1000*mostValue + 1}}, many, nil, api.ErrFull)
}

// Ta1: up to 4096 segments, and one more, wherever it stands.
func TestAddUpToSegments(t *testing.T) {
	l := manySegs(mostShares)
	for _, seg := range []int{1, 3, 5, 4095, 2*mostShares - 1, 2*mostShares + 1, mostCount} {
		add(t, "a segment more than 4096", l, []api.Point{{Seg: seg, Len: 1}}, nil, api.ErrFull)
	}
	want := slices.Clone(l)
	want[0].Bytes, want[4095].Bytes = 8, 3
	add(t, "to segments that are there", l, []api.Point{{Seg: 2, Len: 3}, {Seg: 2 * mostShares, Len: 2}, {Seg: 2, Len: 4}}, want, api.OK)
	add(t, "the 4096th", l[:4095], []api.Point{{Seg: 2 * mostShares, Len: 1}}, l, api.OK)
	add(t, "the 4096th, ahead of all", l[1:], []api.Point{{Seg: 2, Len: 1}}, l, api.OK)
	add(t, "the 4096th and one more", l[1:], []api.Point{{Seg: 2, Len: 1}, {Seg: 1, Len: 1}}, nil, api.ErrFull)
	add(t, "the 4096th, twice", l[1:], []api.Point{{Seg: 2, Len: 1}, {Seg: 2, Len: 1}}, append([]api.Share{{Seg: 2, Bytes: 2}}, l[1:]...), api.OK)
}

// pointsOf are points that weigh what each segment has, which is at most 4096 bytes.
func pointsOf(l []api.Share) []api.Point {
	p := make([]api.Point, len(l))
	for i, s := range l {
		p[i] = api.Point{Seg: s.Seg, At: i, Len: s.Bytes}
	}
	return p
}

// Ta1: Sub of all that a segment has, of some, of more, of a segment that is not there.
func TestSubKnown(t *testing.T) {
	l := []api.Share{{Seg: 3, Bytes: 10}, {Seg: 5, Bytes: 20}, {Seg: 9, Bytes: mostBytes}}
	for _, c := range []struct {
		what string
		p    []api.Point
		want []api.Share
		err  api.Errno
	}{
		{"nothing", nil, l, api.OK},
		{"no list", []api.Point{}, l, api.OK},
		{"some of the first", []api.Point{{Seg: 3, Len: 4}}, []api.Share{{Seg: 3, Bytes: 6}, l[1], l[2]}, api.OK},
		{"all but one", []api.Point{{Seg: 3, Len: 9}}, []api.Share{{Seg: 3, Bytes: 1}, l[1], l[2]}, api.OK},
		{"all of the first", []api.Point{{Seg: 3, Len: 10}}, []api.Share{l[1], l[2]}, api.OK},
		{"all of the middle", []api.Point{{Seg: 5, Len: 20}}, []api.Share{l[0], l[2]}, api.OK},
		{"all of it, part by part", []api.Point{{Seg: 5, Len: 7}, {Seg: 5, Len: 6}, {Seg: 5, Len: 7}}, []api.Share{l[0], l[2]}, api.OK},
		{"all of two", []api.Point{{Seg: 5, Len: 20}, {Seg: 3, Len: 10}}, []api.Share{l[2]}, api.OK},
		{"some of the last", []api.Point{{Seg: 9, Len: mostValue}}, []api.Share{l[0], l[1], {Seg: 9, Bytes: mostBytes - mostValue}}, api.OK},
		{"more by one", []api.Point{{Seg: 3, Len: 11}}, nil, api.ErrNone},
		{"much more", []api.Point{{Seg: 5, Len: mostValue}}, nil, api.ErrNone},
		{"of one ahead of all", []api.Point{{Seg: 1, Len: 1}}, nil, api.ErrNone},
		{"of one between", []api.Point{{Seg: 4, Len: 1}}, nil, api.ErrNone},
		{"of one behind all", []api.Point{{Seg: 10, Len: 1}}, nil, api.ErrNone},
		{"of the last segment of all", []api.Point{{Seg: mostCount, Len: 1}}, nil, api.ErrNone},
		{"too much by a later one", []api.Point{{Seg: 3, Len: 6}, {Seg: 3, Len: 5}}, nil, api.ErrNone},
		{"too much by the last one", []api.Point{{Seg: 3, Len: 4}, {Seg: 5, Len: 20}, {Seg: 3, Len: 6}, {Seg: 3, Len: 1}}, nil, api.ErrNone},
		{"one that is gone by then", []api.Point{{Seg: 5, Len: 20}, {Seg: 5, Len: 1}}, nil, api.ErrNone},
		{"the later one of a segment that is not there", []api.Point{{Seg: 3, Len: 4}, {Seg: 7, Len: 4}}, nil, api.ErrNone},
		{"one that is too much ahead of one that is not", []api.Point{{Seg: 3, Len: 11}, {Seg: 5, Len: 1}}, nil, api.ErrNone},
	} {
		sub(t, c.what, l, c.p, c.want, c.err)
	}
	sub(t, "from nothing", nil, []api.Point{{Seg: 3, Len: 1}}, nil, api.ErrNone)
	sub(t, "nothing from nothing", nil, nil, nil, api.OK)
	sub(t, "from an empty list", []api.Share{}, []api.Point{{Seg: 3, Len: 1}}, nil, api.ErrNone)
	sub(t, "all that there is", l[:2], pointsOf(l[:2]), nil, api.OK)
}

// Ta1: Sub of a tally that has as many segments as there may be.
func TestSubOfMany(t *testing.T) {
	l := manySegs(mostShares)
	p := pointsOf(l)
	slices.Reverse(p)
	sub(t, "all of 4096", l, p, nil, api.OK)
	sub(t, "all of 4096 but the first", l, p[:4095], l[:1], api.OK)
	sub(t, "all of 4096, and one more", l, append(p, api.Point{Seg: 2, Len: 1}), nil, api.ErrNone)
	for i := range l {
		sub(t, "one of 4096", l, pointsOf(l[i:i+1]), slices.Concat(l[:i], l[i+1:]), api.OK)
	}
}

// Ta1: Add and Sub as the words say.
func TestAddAndSubAsTheWordsSay(t *testing.T) {
	r := newSource()
	seen := map[api.Errno]int{}
	for range 40000 {
		l := someTally(r, r.Intn(8))
		p := pointsBeside(r, l, r.Intn(6))
		if len(p) > 0 && r.Intn(30) == 0 {
			wrong := wrongPoints()
			p[r.Intn(len(p))] = wrong[r.Intn(len(wrong))]
		}
		if len(l) > 0 && r.Intn(30) == 0 {
			l[r.Intn(len(l))].Bytes = 0
		}
		want, wantErr := plainAdd(l, p)
		add(t, "as the words say", l, p, want, wantErr)
		seen[wantErr]++
		want, wantErr = plainSub(l, p)
		sub(t, "as the words say", l, p, want, wantErr)
		seen[wantErr]++
	}
	for _, err := range []api.Errno{api.OK, api.ErrArg, api.ErrNone, api.ErrFull} {
		if seen[err] < 100 {
			t.Errorf("error %d: only %d times", err, seen[err])
		}
	}
}

// Ta1: long lists, as the words say.
func TestLongLists(t *testing.T) {
	r := newSource()
	for _, n := range []int{100, 1000, mostShares - 20, mostShares - 1, mostShares} {
		l := someTally(r, n)
		p := pointsBeside(r, l, 3000)
		want, wantErr := plainAdd(l, p)
		add(t, "many to many", l, p, want, wantErr)
		want, wantErr = plainSub(l, p)
		sub(t, "many from many", l, p, want, wantErr)
		other := someTally(r, n)
		want, wantErr = plainJoin(l, other)
		join(t, "many and many", l, other, want, wantErr)
	}
}

// Ta2: Get of segments that are there and that are not.
func TestGetKnown(t *testing.T) {
	l := []api.Share{{Seg: 3, Bytes: 10}, {Seg: 5, Bytes: 20}, {Seg: mostCount, Bytes: mostBytes}}
	for _, c := range []struct{ seg, want int }{
		{3, 10}, {5, 20}, {mostCount, mostBytes},
		{0, 0}, {1, 0}, {2, 0}, {4, 0}, {6, 0}, {mostCount - 1, 0}, {mostCount + 1, 0}, {-3, 0}, {-1, 0},
		{3 + 1<<32, 0}, {3 + math.MinInt, 0}, {math.MaxInt, 0}, {math.MinInt, 0},
	} {
		if n := Get(l, c.seg); n != c.want {
			t.Errorf("Get of segment %d: %d, want %d", c.seg, n, c.want)
		}
	}
	for _, seg := range []int{math.MinInt, -1, 0, 1, mostCount, math.MaxInt} {
		if Get(nil, seg) != 0 || Get([]api.Share{}, seg) != 0 {
			t.Errorf("Get of nothing, segment %d", seg)
		}
	}
}

// Ta2: Get, of each segment of many, and of those beside.
func TestGetAsTheWordsSay(t *testing.T) {
	r := newSource()
	for _, n := range []int{0, 1, 2, 3, 7, 8, 100, mostShares, mostShares + 1} {
		l := someTally(r, n)
		m := plainMap(l)
		if !plainMayBe(l) {
			m = nil
		}
		for _, s := range l {
			for seg := s.Seg - 2; seg <= s.Seg+2; seg++ {
				if got := Get(l, seg); got != m[seg] {
					t.Fatalf("Get of segment %d, one of %d: %d, want %d", seg, n, got, m[seg])
				}
			}
		}
	}
}

// Ta2: Of is Add of nothing.
func TestOf(t *testing.T) {
	r := newSource()
	for range 5000 {
		p := pointsBeside(r, someTally(r, r.Intn(8)), r.Intn(30))
		want, wantErr := plainAdd(nil, p)
		got, err := Of(p)
		same(t, "Of", got, err, want, wantErr)
		add(t, "to nothing", nil, p, want, wantErr)
	}
	for _, p := range [][]api.Point{nil, {}} {
		got, err := Of(p)
		same(t, "Of nothing", got, err, nil, api.OK)
	}
}

// Ta2: Of of as many segments as there may be, and of one more.
func TestOfUpToSegments(t *testing.T) {
	l := manySegs(mostShares + 1)
	p := pointsOf(l)
	slices.Reverse(p)
	got, err := Of(p[1:])
	same(t, "Of 4096 segments", got, err, l[:mostShares], api.OK)
	got, err = Of(p)
	same(t, "Of 4097 segments", got, err, nil, api.ErrFull)
	got, err = Of(slices.Concat(p[1:], p[1:]))
	for i := range l {
		l[i].Bytes = 2
	}
	same(t, "Of 4096 segments, twice", got, err, l[:mostShares], api.OK)
}

// Ta2: Of of so many points that a segment has more than 32 bits could tell.
func TestOfGreatWeight(t *testing.T) {
	const n = 1<<20 + 3
	p := slices.Repeat([]api.Point{{Seg: 7, Len: mostValue}}, n)
	got, err := Of(p)
	same(t, "Of many points", got, err, []api.Share{{Seg: 7, Bytes: n * mostValue}}, api.OK)
}

// Ta2: Join of nothing, of tallies that share segments and that do not.
func TestJoinKnown(t *testing.T) {
	l := []api.Share{{Seg: 3, Bytes: 10}, {Seg: 5, Bytes: 20}}
	for _, c := range []struct {
		what string
		b    []api.Share
		want []api.Share
	}{
		{"nothing", nil, l},
		{"an empty list", []api.Share{}, l},
		{"itself", l, []api.Share{{Seg: 3, Bytes: 20}, {Seg: 5, Bytes: 40}}},
		{"the first", l[:1], []api.Share{{Seg: 3, Bytes: 20}, {Seg: 5, Bytes: 20}}},
		{"the last", l[1:], []api.Share{{Seg: 3, Bytes: 10}, {Seg: 5, Bytes: 40}}},
		{"one ahead", []api.Share{{Seg: 1, Bytes: 2}}, []api.Share{{Seg: 1, Bytes: 2}, l[0], l[1]}},
		{"one between", []api.Share{{Seg: 4, Bytes: 2}}, []api.Share{l[0], {Seg: 4, Bytes: 2}, l[1]}},
		{"one behind", []api.Share{{Seg: 6, Bytes: 2}}, []api.Share{l[0], l[1], {Seg: 6, Bytes: 2}}},
		{"several", []api.Share{{Seg: 1, Bytes: 1}, {Seg: 3, Bytes: 2}, {Seg: 4, Bytes: 3}, {Seg: mostCount, Bytes: mostBytes}}, []api.Share{{Seg: 1, Bytes: 1}, {Seg: 3, Bytes: 12}, {Seg: 4, Bytes: 3}, l[1], {Seg: mostCount, Bytes: mostBytes}}},
	} {
		join(t, c.what, l, c.b, c.want, api.OK)
	}
	join(t, "nothing and nothing", nil, nil, nil, api.OK)
	join(t, "nothing and an empty list", nil, []api.Share{}, nil, api.OK)
}

// Ta2: Join up to 2^40 bytes, and one more.
func TestJoinUpToBytes(t *testing.T) {
	for _, n := range []int{1, 2, 4096, mostBytes / 2, mostBytes - 1} {
		a := []api.Share{{Seg: 1, Bytes: 1}, {Seg: 2, Bytes: n}, {Seg: 9, Bytes: mostBytes}}
		join(t, "up to 2^40 bytes", a, []api.Share{{Seg: 2, Bytes: mostBytes - n}}, []api.Share{a[0], {Seg: 2, Bytes: mostBytes}, a[2]}, api.OK)
		join(t, "one more", a, []api.Share{{Seg: 2, Bytes: mostBytes - n + 1}}, nil, api.ErrFull)
		join(t, "one more to the last", a, []api.Share{{Seg: 9, Bytes: 1}}, nil, api.ErrFull)
	}
	full := []api.Share{{Seg: 1, Bytes: mostBytes}}
	join(t, "both full", full, full, nil, api.ErrFull)
}

// Ta2: Join up to 4096 segments, and one more.
func TestJoinUpToSegments(t *testing.T) {
	l := manySegs(mostShares)
	twice := slices.Clone(l)
	for i := range twice {
		twice[i].Bytes = 2
	}
	join(t, "the same 4096", l, l, twice, api.OK)
	for _, n := range []int{0, 1, 2000, 4095, 4096} {
		join(t, "parts of 4096", l[:n], l[n:], l, api.OK)
	}
	for _, n := range []int{1, 2000, 4095, 4096} {
		join(t, "one more ahead", l[:n], append([]api.Share{{Seg: 1, Bytes: 1}}, l[n:]...), nil, api.ErrFull)
	}
	join(t, "a tally of one more", nil, append([]api.Share{{Seg: 1, Bytes: 1}}, l...), nil, api.ErrArg)
	join(t, "one more behind", l, []api.Share{{Seg: mostCount, Bytes: 1}}, nil, api.ErrFull)
	join(t, "one more between", l, []api.Share{{Seg: 2, Bytes: 1}, {Seg: 3, Bytes: 1}}, nil, api.ErrFull)
	var odd []api.Share
	for _, s := range l {
		odd = append(odd, api.Share{Seg: s.Seg - 1, Bytes: 1})
	}
	join(t, "4096 others", l, odd, nil, api.ErrFull)
}

// Ta2: Join as the words say.
func TestJoinAsTheWordsSay(t *testing.T) {
	r := newSource()
	seen := map[api.Errno]int{}
	for range 20000 {
		a, b := someTally(r, r.Intn(8)), someTally(r, r.Intn(8))
		if r.Intn(30) == 0 {
			b = append(b, api.Share{Seg: 1, Bytes: 0})
		}
		want, wantErr := plainJoin(a, b)
		join(t, "as the words say", a, b, want, wantErr)
		seen[wantErr]++
	}
	for _, err := range []api.Errno{api.OK, api.ErrArg, api.ErrFull} {
		if seen[err] < 50 {
			t.Errorf("error %d: only %d times", err, seen[err])
		}
	}
}

// Ta2: points in parts, joined, are as if they were added at once.
func TestJoinOfParts(t *testing.T) {
	r := newSource()
	for range 3000 {
		p := pointsBeside(r, someTally(r, 5), r.Intn(40))
		at := r.Intn(len(p) + 1)
		a, _ := Of(p[:at])
		b, _ := Of(p[at:])
		want, err := Of(p)
		join(t, "of parts", a, b, want, err)
	}
}

// Ta3: what is added is taken away again, whatever it is, in whatever order.
func TestAddedIsTakenAway(t *testing.T) {
	r := newSource()
	done := 0
	for range 20000 {
		l := someTally(r, r.Intn(8))
		p := pointsBeside(r, l, r.Intn(12))
		more, err := Add(l, p...)
		if err != api.OK {
			continue
		}
		done++
		if Check(more) != api.OK {
			t.Fatalf("Add tells %v, which may not be", more)
		}
		sub(t, "what was added", more, p, l, api.OK)
		r.Shuffle(len(p), func(i, j int) { p[i], p[j] = p[j], p[i] })
		sub(t, "what was added, in another order", more, p, l, api.OK)
	}
	if done < 10000 {
		t.Errorf("only %d were added", done)
	}
}

// Ta3: what is taken away is added again; one by one is as all at once.
func TestTakenAwayIsAdded(t *testing.T) {
	r := newSource()
	done := 0
	for range 20000 {
		l := someTally(r, 1+r.Intn(8))
		p := pointsBeside(r, l, r.Intn(3))
		less, err := Sub(l, p...)
		if err != api.OK {
			continue
		}
		done++
		if Check(less) != api.OK {
			t.Fatalf("Sub tells %v, which may not be", less)
		}
		add(t, "what was taken away", less, p, l, api.OK)
		single := l
		for _, x := range p {
			single, _ = Sub(single, x)
		}
		same(t, "Sub one by one", single, api.OK, less, api.OK)
		for _, x := range p {
			single, _ = Add(single, x)
		}
		same(t, "Add one by one", single, api.OK, l, api.OK)
	}
	if done < 5000 {
		t.Errorf("only %d were taken away", done)
	}
}

// Ta3: in which order points are added does not matter, nor where one is too much.
func TestOrderDoesNotMatter(t *testing.T) {
	r := newSource()
	for range 5000 {
		l := someTally(r, r.Intn(6))
		p := pointsBeside(r, l, r.Intn(12))
		want, wantErr := Add(l, p...)
		for range 4 {
			r.Shuffle(len(p), func(i, j int) { p[i], p[j] = p[j], p[i] })
			add(t, "in another order", l, p, want, wantErr)
		}
	}
	p := []api.Point{{Seg: 2, Len: 1}, {Seg: 1, Len: 2}, {Seg: 2, Len: 3}, {Seg: 4, Len: 4}, {Seg: 1, Len: 5}}
	eachOrder(p, func(p []api.Point) {
		add(t, "in each order", []api.Share{{Seg: 2, Bytes: 1}}, p, []api.Share{{Seg: 1, Bytes: 7}, {Seg: 2, Bytes: 5}, {Seg: 4, Bytes: 4}}, api.OK)
	})
}

func eachOrder(p []api.Point, use func(p []api.Point)) {
	var put func(n int)
	put = func(n int) {
		if n == len(p) {
			use(p)
			return
		}
		for i := n; i < len(p); i++ {
			p[n], p[i] = p[i], p[n]
			put(n + 1)
			p[n], p[i] = p[i], p[n]
		}
	}
	put(0)
}

// withTail is a list as a part of longer memory, whose rest a call must leave as it is.
func withTail[T any](l []T, tail T) (part, whole []T) {
	whole = append(slices.Clone(l), slices.Repeat([]T{tail}, 16)...)
	return whole[:len(l)], whole
}

// R3: no call writes to what it is handed, nor behind its end.
func TestNothingIsWritten(t *testing.T) {
	r := newSource()
	for range 5000 {
		l, whole := withTail(someTally(r, r.Intn(8)), api.Share{Seg: 7, Bytes: 7})
		other, wholeOther := withTail(someTally(r, r.Intn(8)), api.Share{Seg: 8, Bytes: 8})
		p, wholePoints := withTail(pointsBeside(r, l, r.Intn(8)), api.Point{Seg: 9, Len: 9})
		if len(l) > 0 && r.Intn(20) == 0 {
			l[0].Seg = 0
		}
		kept, keptOther, keptPoints := slices.Clone(whole), slices.Clone(wholeOther), slices.Clone(wholePoints)
		useAll(l, other, p)
		if !slices.Equal(whole, kept) || !slices.Equal(wholeOther, keptOther) {
			t.Fatal("a call wrote to a tally")
		}
		if !slices.Equal(wholePoints, keptPoints) {
			t.Fatal("a call wrote to points")
		}
	}
}

// useAll is what all calls that tell tallies tell.
func useAll(l, other []api.Share, p []api.Point) [][]api.Share {
	Check(l)
	Get(l, 3)
	a, _ := Add(l, p...)
	b, _ := Sub(l, p...)
	c, _ := Of(p)
	d, _ := Join(l, other)
	return [][]api.Share{a, b, c, d}
}

// R3: what is told is no part of what was handed in, nor of other things told, also where nothing is added, taken away or joined.
func TestAnswersAreNew(t *testing.T) {
	r := newSource()
	for range 2000 {
		l, _ := withTail(someTally(r, r.Intn(6)), api.Share{Seg: 7, Bytes: 7})
		p := pointsBeside(r, l, r.Intn(3))
		other := someTally(r, r.Intn(3))
		kept, keptPoints, keptOther := slices.Clone(l[:cap(l)]), slices.Clone(p), slices.Clone(other)
		first, second := useAll(l, other, p), useAll(l, other, p)
		want := make([][]api.Share, len(second))
		for i := range second {
			want[i] = slices.Clone(second[i])
		}
		for _, got := range first {
			clear(got[:cap(got)])
		}
		if !slices.Equal(l[:cap(l)], kept) || !slices.Equal(p, keptPoints) || !slices.Equal(other, keptOther) {
			t.Fatal("what is told is a part of what was handed in")
		}
		clear(l)
		clear(p)
		clear(other)
		for i := range second {
			if !slices.Equal(second[i], want[i]) {
				t.Fatal("answers share memory, with each other or with what was handed in")
			}
		}
	}
}

// R4: the same answers, again and again, whatever the memory around the lists is.
func TestSameAgain(t *testing.T) {
	r := newSource()
	for range 3000 {
		l, _ := withTail(someTally(r, r.Intn(8)), api.Share{Seg: 1, Bytes: 1})
		other, _ := withTail(someTally(r, r.Intn(8)), api.Share{})
		p, _ := withTail(pointsBeside(r, l, r.Intn(8)), api.Point{})
		first := useAll(l, other, p)
		second := useAll(slices.Clip(slices.Clone(l)), slices.Clip(slices.Clone(other)), slices.Clip(slices.Clone(p)))
		for i := range first {
			if !slices.Equal(first[i], second[i]) {
				t.Fatal("a call answers otherwise")
			}
		}
	}
}

// R5: an empty list, or no list, are the same.
func TestNoListIsAnEmptyList(t *testing.T) {
	p := []api.Point{{Seg: 3, Len: 4}}
	some := []api.Share{{Seg: 3, Bytes: 4}}
	for _, none := range [][]api.Share{nil, {}, make([]api.Share, 0, 4), some[:0]} {
		if Check(none) != api.OK || Get(none, 3) != 0 {
			t.Error("Check or Get of nothing")
		}
		add(t, "to nothing", none, p, some, api.OK)
		add(t, "nothing to nothing", none, nil, nil, api.OK)
		sub(t, "from nothing", none, p, nil, api.ErrNone)
		sub(t, "nothing from nothing", none, nil, nil, api.OK)
		join(t, "with nothing", none, some, some, api.OK)
		join(t, "nothing with nothing", none, none, nil, api.OK)
	}
	for _, none := range [][]api.Point{nil, {}, p[:0]} {
		add(t, "no points", some, none, some, api.OK)
		sub(t, "no points", some, none, some, api.OK)
		of, err := Of(none)
		same(t, "Of no points", of, err, nil, api.OK)
	}
	add(t, "without a list", some, nil, some, api.OK)
	l, err := Add(some)
	same(t, "Add of no points at all", l, err, some, api.OK)
	l, err = Sub(some)
	same(t, "Sub of no points at all", l, err, some, api.OK)
}

// P1: every call ends and none panics, at all arguments, and tells what the words say.
func FuzzAll(f *testing.F) {
	f.Add(int64(1), 3, 5, 3, 0, 7, 9)
	f.Add(int64(2), 0, mostBytes, 1, 1, 1, 4)
	f.Add(int64(3), mostCount, -1, mostCount+1, -1, mostValue+1, 0)
	f.Add(int64(4), math.MinInt, math.MaxInt, math.MaxInt, math.MinInt, math.MaxInt, 200)
	f.Fuzz(func(t *testing.T, seed int64, seg, n, pointSeg, at, size, count int) {
		r := rand.New(rand.NewSource(seed))
		l := append(someTally(r, int(uint(count)%6)), api.Share{Seg: seg, Bytes: n})
		p := append(pointsBeside(r, l, int(uint(count)%9)), api.Point{Seg: pointSeg, At: at, Len: size})
		other := someTally(r, int(uint(count)%4))
		want, wantErr := plainAdd(l, p)
		add(t, "as the words say", l, p, want, wantErr)
		want, wantErr = plainSub(l, p)
		sub(t, "as the words say", l, p, want, wantErr)
		want, wantErr = plainAdd(nil, p)
		of, err := Of(p)
		same(t, "Of", of, err, want, wantErr)
		want, wantErr = plainJoin(l, other)
		join(t, "as the words say", l, other, want, wantErr)
		if Get(l, pointSeg) != plainGet(l, pointSeg) || Get(l, seg) != plainGet(l, seg) {
			t.Error("Get")
		}
		if (Check(l) == api.OK) != plainMayBe(l) {
			t.Error("Check")
		}
	})
}

func BenchmarkAdd(b *testing.B) {
	l := manySegs(mostShares)
	p := api.Point{Seg: 4096, Len: 9}
	for b.Loop() {
		Add(l, p)
	}
}

func BenchmarkOf(b *testing.B) {
	p := pointsBeside(newSource(), manySegs(100), 10000)
	for b.Loop() {
		Of(p)
	}
}
