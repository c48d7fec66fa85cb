package relay

import (
	"math"
	"slices"
	"testing"

	"garner/api"
)

// found asks Find for a point, by how many hops, and an error.
func found(t *testing.T, r *Relay, p, want api.Point, hops int, err api.Errno) {
	t.Helper()
	q, n, e := r.Find(p)
	if q != want || n != hops || e != err {
		t.Fatalf("Find(%v) = %v, %d, %d; want %v, %d, %d", p, q, n, e, want, hops, err)
	}
}

// lost asks that a point is lost.
func lost(t *testing.T, r *Relay, p api.Point) {
	t.Helper()
	found(t, r, p, api.Point{}, 0, api.ErrNone)
}

// stays asks that a point is where it stands.
func stays(t *testing.T, r *Relay, p api.Point) {
	t.Helper()
	found(t, r, p, p, 0, api.OK)
}

// segs asks for the segments that there are moves of.
func segs(t *testing.T, r *Relay, want ...int) {
	t.Helper()
	if got := r.Segs(); !slices.Equal(got, want) {
		t.Fatalf("Segs() = %v, want %v", got, want)
	}
}

// set sets a move that may be.
func set(t *testing.T, r *Relay, seg int, l ...api.Hop) {
	t.Helper()
	if err := r.Set(seg, l); err != api.OK {
		t.Fatalf("Set(%d, %v) = %d", seg, l, err)
	}
}

// drop asks Drop for an error.
func drop(t *testing.T, r *Relay, seg int, want api.Errno) {
	t.Helper()
	if err := r.Drop(seg); err != want {
		t.Fatalf("Drop(%d) = %d, want %d", seg, err, want)
	}
}

// The chapter's example.
func TestExample(t *testing.T) {
	r := New()
	set(t, r, 1, api.Hop{At: 2, To: api.Point{Seg: 3, At: 9}})
	found(t, r, api.Point{Seg: 1, At: 2}, api.Point{Seg: 3, At: 9}, 1, api.OK)
}

// Re2: a relay without moves.
func TestNew(t *testing.T) {
	r := New()
	if r == nil {
		t.Fatal("no relay")
	}
	segs(t, r)
	drop(t, r, 1, api.ErrNone)
	stays(t, r, api.Point{Seg: 1})
	set(t, r, 1)
	segs(t, New())
}

// Re2: hops that may not be turn nothing.
func TestSetOfWhatMayNotBe(t *testing.T) {
	to := api.Point{Seg: 9, At: 4, Len: 2, Sum: 6}
	p := api.Point{Seg: 7, At: 5, Len: 2, Sum: 6}
	r := New()
	refused := func(seg int, l []api.Hop) {
		t.Helper()
		if err := r.Set(seg, l); err != api.ErrArg {
			t.Fatalf("Set(%d, %d hops) = %d", seg, len(l), err)
		}
	}
	all := func() {
		t.Helper()
		for _, seg := range wrongSegs() {
			refused(seg, nil)
			refused(seg, rising(2, mostCount))
		}
		refused(mostCount, rising(1, mostCount))
		refused(7, rising(16385, 9))
		for _, places := range [][]int{{0, 0}, {5, 4}, {1, 2, 2}, {-1}, {-1, 5}, {mostCount + 1}, {3, mostCount + 1}, {math.MinInt}} {
			l := atPlaces(places)
			for i := range l {
				l[i].To = api.Point{Seg: 8}
			}
			refused(7, l)
		}
		for _, to := range []api.Point{{Seg: 7}, {Seg: 6}, {}, {Seg: -1}, {Seg: mostCount + 1}, {Seg: 8, At: -1}, {Seg: 8, At: mostCount + 1}, {Seg: 8, Len: -1}, {Seg: 8, Len: 4097}} {
			refused(7, []api.Hop{{At: 5, To: to}})
			refused(7, []api.Hop{{At: 5, To: api.Point{Seg: 8}}, {At: 6, To: to}})
		}
	}
	all()
	segs(t, r)
	stays(t, r, p)
	set(t, r, 7, api.Hop{At: 5, To: to})
	all()
	segs(t, r, 7)
	found(t, r, p, to, 1, api.OK)
}

// Re2: a segment's move is that one from then on, and nothing of the one ahead.
func TestSetAgain(t *testing.T) {
	r := New()
	set(t, r, 1, api.Hop{At: 2, To: api.Point{Seg: 3, At: 9}}, api.Hop{At: 4, To: api.Point{Seg: 3, At: 10}})
	set(t, r, 1, api.Hop{At: 4, To: api.Point{Seg: 5, At: 11}})
	segs(t, r, 1)
	lost(t, r, api.Point{Seg: 1, At: 2})
	found(t, r, api.Point{Seg: 1, At: 4}, api.Point{Seg: 5, At: 11}, 1, api.OK)
	set(t, r, 1)
	segs(t, r, 1)
	lost(t, r, api.Point{Seg: 1, At: 4})
	set(t, r, 1, api.Hop{At: 4, To: api.Point{Seg: 6, At: 12}})
	found(t, r, api.Point{Seg: 1, At: 4}, api.Point{Seg: 6, At: 12}, 1, api.OK)
}

// Re2, R5: a move without hops is one.
func TestSetOfNoHops(t *testing.T) {
	for _, l := range [][]api.Hop{nil, {}, make([]api.Hop, 0, 3)} {
		r := New()
		for _, seg := range []int{4, mostCount} {
			if err := r.Set(seg, l); err != api.OK {
				t.Fatal(err)
			}
			lost(t, r, api.Point{Seg: seg})
			lost(t, r, api.Point{Seg: seg, At: mostCount, Len: 4096, Sum: math.MaxUint32})
		}
		segs(t, r, 4, mostCount)
		stays(t, r, api.Point{Seg: 3})
		stays(t, r, api.Point{Seg: 5})
		drop(t, r, 4, api.OK)
		drop(t, r, 4, api.ErrNone)
		segs(t, r, mostCount)
		stays(t, r, api.Point{Seg: 4})
	}
}

// Re2: a move that is dropped is gone, once.
func TestDrop(t *testing.T) {
	r := New()
	set(t, r, 1, api.Hop{At: 2, To: api.Point{Seg: 3, At: 9}})
	for _, seg := range append(wrongSegs(), 2, 3, mostCount) {
		drop(t, r, seg, api.ErrNone)
	}
	segs(t, r, 1)
	drop(t, r, 1, api.OK)
	segs(t, r)
	stays(t, r, api.Point{Seg: 1, At: 2})
	stays(t, r, api.Point{Seg: 1, At: 3})
	drop(t, r, 1, api.ErrNone)
	set(t, r, 1, api.Hop{At: 2, To: api.Point{Seg: 4, At: 8}})
	found(t, r, api.Point{Seg: 1, At: 2}, api.Point{Seg: 4, At: 8}, 1, api.OK)
}

// Re2: segments rise, in whatever order they were set.
func TestSegs(t *testing.T) {
	r := newSource()
	for range 50 {
		var want []int
		relay := New()
		for range 40 {
			seg := 1 + someNumber(r, mostCount-1)
			set(t, relay, seg)
			want = append(want, seg)
		}
		slices.Sort(want)
		want = slices.Compact(want)
		segs(t, relay, want...)
		for _, i := range r.Perm(len(want)) {
			seg := relay.Segs()[i%len(relay.Segs())]
			drop(t, relay, seg, api.OK)
			at := slices.Index(want, seg)
			want = slices.Delete(want, at, at+1)
			segs(t, relay, want...)
		}
	}
}

// Re2: a point that may not be, whatever moves there are.
func TestFindOfWhatMayNotBe(t *testing.T) {
	r := New()
	for range 2 {
		for _, seg := range wrongSegs() {
			found(t, r, api.Point{Seg: seg}, api.Point{}, 0, api.ErrArg)
		}
		for _, p := range []api.Point{
			{}, {Seg: 1, At: -1}, {Seg: 1, At: mostCount + 1}, {Seg: 1, At: math.MinInt}, {Seg: 1, At: 1<<32 + 2},
			{Seg: 1, Len: -1}, {Seg: 1, At: 2, Len: 4097}, {Seg: 1, Len: math.MaxInt}, {Seg: 2, At: -1}, {Seg: 2, Len: 4097}, {Seg: 9, At: -1}, {Seg: 9, Len: 4097},
		} {
			found(t, r, p, api.Point{}, 0, api.ErrArg)
		}
		set(t, r, 1, api.Hop{At: 2, To: api.Point{Seg: 3, At: 9}})
		set(t, r, 2)
	}
}

// Re2: a point of a segment without a move is where it stands.
func TestFindWhereItStands(t *testing.T) {
	r := New()
	set(t, r, 5, api.Hop{At: 2, To: api.Point{Seg: 8, At: 9, Len: 3, Sum: 4}})
	for _, seg := range []int{1, 4, 6, 8, mostCount} {
		for _, p := range []api.Point{{Seg: seg}, {Seg: seg, At: 2, Len: 3, Sum: 4}, {Seg: seg, At: 9, Len: 3, Sum: 4}, {Seg: seg, At: mostCount, Len: 4096, Sum: math.MaxUint32}} {
			stays(t, r, p)
		}
	}
}

// Re2: a hop is followed just from its place, and with its Len and Sum.
func TestFindByOneHop(t *testing.T) {
	r := New()
	set(t, r, 5,
		api.Hop{At: 0, To: api.Point{Seg: 6, At: 1, Len: 1, Sum: 1}},
		api.Hop{At: 2, To: api.Point{Seg: 8, At: 9, Len: 3, Sum: 4}},
		api.Hop{At: mostCount, To: api.Point{Seg: mostCount, At: mostCount, Len: 4096, Sum: math.MaxUint32}})
	found(t, r, api.Point{Seg: 5, At: 0, Len: 1, Sum: 1}, api.Point{Seg: 6, At: 1, Len: 1, Sum: 1}, 1, api.OK)
	found(t, r, api.Point{Seg: 5, At: 2, Len: 3, Sum: 4}, api.Point{Seg: 8, At: 9, Len: 3, Sum: 4}, 1, api.OK)
	found(t, r, api.Point{Seg: 5, At: mostCount, Len: 4096, Sum: math.MaxUint32}, api.Point{Seg: mostCount, At: mostCount, Len: 4096, Sum: math.MaxUint32}, 1, api.OK)
	for _, p := range []api.Point{
		{Seg: 5, At: 1, Len: 3, Sum: 4}, {Seg: 5, At: 3, Len: 3, Sum: 4}, {Seg: 5, At: 9, Len: 3, Sum: 4}, {Seg: 5, At: 0, Len: 3, Sum: 4},
		{Seg: 5, At: 2, Len: 2, Sum: 4}, {Seg: 5, At: 2, Len: 4, Sum: 4}, {Seg: 5, At: 2, Len: 0, Sum: 4},
		{Seg: 5, At: 2, Len: 3, Sum: 3}, {Seg: 5, At: 2, Len: 3, Sum: 5}, {Seg: 5, At: 2, Len: 3, Sum: 4 | 1<<31}, {Seg: 5, At: 2, Len: 3, Sum: 0},
		{Seg: 5, At: 2, Len: 4, Sum: 3}, {Seg: 5, At: 2},
	} {
		lost(t, r, p)
	}
}

// Re2: a point is followed over many moves, and lost where one of them loses it.
func TestFindByManyHops(t *testing.T) {
	r := New()
	const moves = 1000
	at := func(seg int) int { return seg * 7 % 100 }
	point := func(seg int) api.Point { return api.Point{Seg: seg, At: at(seg), Len: 12, Sum: 34} }
	for seg := moves; seg >= 1; seg-- {
		set(t, r, seg, api.Hop{At: at(seg), To: point(seg + 1)})
		found(t, r, point(seg), point(moves+1), moves+1-seg, api.OK)
	}
	set(t, r, 600)
	for seg := 1; seg <= moves; seg++ {
		if seg <= 600 {
			lost(t, r, point(seg))
		} else {
			found(t, r, point(seg), point(moves+1), moves+1-seg, api.OK)
		}
	}
	for _, to := range []api.Point{{Seg: moves + 5, At: 3, Len: 12, Sum: 35}, {Seg: moves + 5, At: 3, Len: 11, Sum: 34}} {
		set(t, r, 600, api.Hop{At: at(600), To: to})
		lost(t, r, point(1))
	}
	to := api.Point{Seg: moves + 5, At: 3, Len: 12, Sum: 34}
	set(t, r, 600, api.Hop{At: at(600), To: to})
	found(t, r, point(1), to, 600, api.OK)
	set(t, r, 600, api.Hop{At: at(600) + 1, To: to})
	lost(t, r, point(1))
	drop(t, r, 600, api.OK)
	found(t, r, point(1), point(600), 599, api.OK)
}

// Re3: it ends over as many moves as there are, each of whose hops leads to the next one.
func TestFindEnds(t *testing.T) {
	r := New()
	const moves = 100000
	for seg := 1; seg <= moves; seg++ {
		set(t, r, seg, api.Hop{To: api.Point{Seg: seg + 1}})
	}
	found(t, r, api.Point{Seg: 1}, api.Point{Seg: moves + 1}, moves, api.OK)
}

func BenchmarkFind(b *testing.B) {
	r := New()
	for seg := 1; seg <= 64; seg++ {
		r.Set(seg, rising(16384, seg+1))
	}
	l := rising(16384, 1)
	for b.Loop() {
		for _, h := range l {
			r.Find(h.To)
		}
	}
}
