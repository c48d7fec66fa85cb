package relay

import (
	"math/rand"
	"slices"
	"testing"

	"garner/api"
)

// few is how many segments and places there are in a play, so that moves meet.
const few = 6

// fewHops lead from few places to few segments and places, of two lengths and sums.
func fewHops(r *rand.Rand, seg int) []api.Hop {
	var l []api.Hop
	for at := range few {
		if r.Intn(3) > 0 {
			l = append(l, api.Hop{At: at, To: fewPoint(r, seg+1+r.Intn(few-seg+1))})
		}
	}
	return l
}

func fewPoint(r *rand.Rand, seg int) api.Point {
	return api.Point{Seg: seg, At: r.Intn(few), Len: r.Intn(8) / 7, Sum: uint32(r.Intn(8) / 7)}
}

// fewPoints are all points of a play.
func fewPoints() []api.Point {
	var l []api.Point
	for seg := range few + 2 {
		for at := range few {
			for len := range 2 {
				for sum := range 2 {
					l = append(l, api.Point{Seg: seg, At: at, Len: len, Sum: uint32(sum)})
				}
			}
		}
	}
	return l
}

// checkSame asks whether a relay is as the words say: its segments, and where each point stands.
func checkSame(t *testing.T, r *Relay, plain *plainRelay, points []api.Point) {
	t.Helper()
	segs(t, r, plain.all()...)
	for _, p := range points {
		want, hops, err := plain.find(p)
		found(t, r, p, want, hops, err)
	}
}

// Re2: as the words say, of many a relay.
func TestAsWords(t *testing.T) {
	r := newSource()
	points := fewPoints()
	most := 0
	for range 60 {
		relay, plain := New(), &plainRelay{}
		for range 60 {
			seg := r.Intn(few + 1)
			if r.Intn(4) == 0 {
				drop(t, relay, seg, plain.drop(seg))
			} else {
				l := fewHops(r, seg)
				if r.Intn(4) == 0 && len(l) > 0 {
					l[r.Intn(len(l))].To.Seg = r.Intn(few + 2)
				}
				if err := relay.Set(seg, l); err != plain.set(seg, l) {
					t.Fatalf("Set(%d, %v) = %d", seg, l, err)
				}
			}
			checkSame(t, relay, plain, points)
		}
		for _, p := range points {
			_, n, _ := relay.Find(p)
			most = max(most, n)
		}
	}
	if most < 4 {
		t.Errorf("no point was followed by more than %d hops", most)
	}
}

// Re3: what is followed keeps its Len and Sum, and stands in no lesser segment, of which there is no move.
func TestFollowedIsTheSame(t *testing.T) {
	r := newSource()
	for range 300 {
		relay := New()
		for seg := 1; seg <= few; seg++ {
			if r.Intn(4) > 0 {
				set(t, relay, seg, fewHops(r, seg)...)
			}
		}
		moved := relay.Segs()
		for _, p := range fewPoints() {
			q, n, err := relay.Find(p)
			if err != api.OK {
				continue
			}
			if q.Len != p.Len || q.Sum != p.Sum || q.Seg < p.Seg+n || n > len(moved) || slices.Contains(moved, q.Seg) {
				t.Fatalf("Find(%v) = %v, %d; moved are %v", p, q, n, moved)
			}
			found(t, relay, q, q, 0, api.OK)
		}
	}
}

// leads is whether a hop of a segment that has a move leads to seg.
func leads(moves map[int][]api.Hop, seg int) bool {
	for _, l := range moves {
		for _, h := range l {
			if h.To.Seg == seg {
				return true
			}
		}
	}
	return false
}

// Re3: a move of a segment that none leads to, dropped, leaves all others as they are followed.
func TestDropOfWhatNoneLeadsTo(t *testing.T) {
	r := newSource()
	dropped := 0
	for range 500 {
		relay, moves := New(), map[int][]api.Hop{}
		for seg := 1; seg <= few; seg++ {
			if r.Intn(4) > 0 {
				moves[seg] = fewHops(r, seg)
				set(t, relay, seg, moves[seg]...)
			}
		}
		for _, seg := range relay.Segs() {
			if leads(moves, seg) {
				continue
			}
			plain := &plainRelay{}
			for other, l := range moves {
				plain.set(other, l)
			}
			delete(moves, seg)
			drop(t, relay, seg, api.OK)
			dropped++
			for _, p := range fewPoints() {
				if p.Seg == seg {
					continue
				}
				want, hops, err := plain.find(p)
				found(t, relay, p, want, hops, err)
			}
		}
	}
	if dropped < 500 {
		t.Errorf("just %d moves were dropped", dropped)
	}
}
