package relay

import (
	"bytes"
	"math"
	"slices"
	"testing"

	"garner/api"
)

// R1, R2: a relay that New did not give, and nobody's.
func TestNobodys(t *testing.T) {
	for _, r := range []*Relay{nil, {}, new(Relay)} {
		for range 2 {
			for _, seg := range []int{math.MinInt, -1, 0, 1, 2, mostCount, math.MaxInt} {
				if err := r.Set(seg, nil); err != api.ErrArg {
					t.Errorf("Set(%d, nil) = %d", seg, err)
				}
				if err := r.Set(seg, rising(2, mostCount)); err != api.ErrArg {
					t.Errorf("Set(%d, 2 hops) = %d", seg, err)
				}
				if err := r.Drop(seg); err != api.ErrNone {
					t.Errorf("Drop(%d) = %d", seg, err)
				}
				found(t, r, api.Point{Seg: seg}, api.Point{}, 0, api.ErrArg)
			}
			if l := r.Segs(); l != nil {
				t.Errorf("Segs() = %v", l)
			}
		}
	}
}

// withTail is l as a part of longer memory, whose rest a call must leave as it is.
func withTail[T any](l []T, more ...T) (part, whole []T) {
	whole = slices.Concat(l, more)
	return whole[:len(l)], whole
}

// spoil lets all that can be reached from l be x.
func spoil[T any](l []T, x T) {
	for i := range l[:cap(l)] {
		l[:cap(l)][i] = x
	}
}

func noHop() api.Hop { return api.Hop{At: -7, To: api.Point{Seg: -7}} }

// R3: no call writes to its hops, nor behind them.
func TestHopsAreNotWritten(t *testing.T) {
	r := newSource()
	for range 500 {
		seg := 1 + someNumber(r, mostCount-2)
		part, whole := withTail(someHops(r, seg, 8), noHop(), noHop(), noHop())
		kept := slices.Clone(whole)
		relay := New()
		Put(seg, part)
		Put(0, part)
		Put(seg, whole)
		relay.Set(seg, part)
		relay.Set(seg, part)
		relay.Set(seg, whole)
		for _, h := range part {
			relay.Find(api.Point{Seg: seg, At: h.At, Len: h.To.Len, Sum: h.To.Sum})
		}
		relay.Drop(seg)
		if !slices.Equal(whole, kept) {
			t.Fatal("a call wrote to its hops")
		}
	}
}

// R3: Get does not write to its bytes, nor behind them.
func TestBytesAreNotWritten(t *testing.T) {
	r := newSource()
	for range 500 {
		seg := 1 + someNumber(r, mostCount-2)
		part, whole := withTail(plainMove(seg, someHops(r, seg, 8)), 1, 2, 3, 4, 5)
		kept := slices.Clone(whole)
		Get(part)
		Get(part[:len(part)/2])
		Get(whole)
		if !bytes.Equal(whole, kept) {
			t.Fatal("Get wrote to its bytes")
		}
	}
}

// Re2, R3: a list of hops that is turned behind Set turns no relay.
func TestSetKeepsNoList(t *testing.T) {
	relay := New()
	l := []api.Hop{{At: 2, To: api.Point{Seg: 3, At: 9, Len: 4}}, {At: 5, To: api.Point{Seg: 4, At: 1, Len: 4}}}
	set(t, relay, 1, l...)
	l2 := slices.Clone(l)
	relay.Set(2, l2)
	spoil(l, noHop())
	l2[0].To.At++
	l2[1].At++
	for seg := 1; seg <= 2; seg++ {
		found(t, relay, api.Point{Seg: seg, At: 2, Len: 4}, api.Point{Seg: 3, At: 9, Len: 4}, 1, api.OK)
		found(t, relay, api.Point{Seg: seg, At: 5, Len: 4}, api.Point{Seg: 4, At: 1, Len: 4}, 1, api.OK)
		lost(t, relay, api.Point{Seg: seg, At: 6, Len: 4})
	}
}

// R3: two relays that were handed one list turn by themselves.
func TestRelaysShareNothing(t *testing.T) {
	l := rising(5, 9)
	a, b := New(), New()
	set(t, a, 1, l...)
	set(t, b, 1, l...)
	set(t, a, 2, l...)
	drop(t, a, 1, api.OK)
	set(t, a, 2)
	segs(t, a, 2)
	segs(t, b, 1)
	found(t, b, api.Point{Seg: 1, At: 3, Len: 1, Sum: 7}, l[1].To, 1, api.OK)
}

// R3: what is answered is new memory, which hangs on nothing handed in, nor on other answers.
func TestAnswersAreNew(t *testing.T) {
	l := rising(9, 2)
	first, _ := Put(1, l)
	second, _ := Put(1, l)
	spoil(first, 255)
	spoil(l, noHop())
	if !bytes.Equal(second, plainMove(1, rising(9, 2))) {
		t.Error("what Put tells shares memory")
	}
	b, _ := withTail(second, 7, 7, 7)
	_, hops, _ := Get(b)
	_, again, _ := Get(b)
	spoil(hops, noHop())
	if !bytes.Equal(b, second) {
		t.Error("what Get tells is a part of its bytes")
	}
	spoil(b, 255)
	if !slices.Equal(again, rising(9, 2)) {
		t.Error("what Get tells shares memory")
	}
	r := New()
	set(t, r, 5)
	set(t, r, 3)
	list, other := r.Segs(), r.Segs()
	spoil(list, -1)
	if !slices.Equal(other, []int{3, 5}) {
		t.Error("what Segs tells shares memory")
	}
	segs(t, r, 3, 5)
}

// R4: the same answers, again and again, whatever came ahead of what there is.
func TestSameAgain(t *testing.T) {
	r := newSource()
	for range 100 {
		a, b := New(), New()
		moves := map[int][]api.Hop{}
		for seg := 1; seg <= few; seg++ {
			moves[seg] = fewHops(r, seg)
			set(t, a, seg, moves[seg]...)
			x, err := Put(seg, moves[seg])
			y, err2 := Put(seg, slices.Clone(moves[seg]))
			if err != err2 || !bytes.Equal(x, y) {
				t.Fatal("Put answers otherwise")
			}
		}
		for _, i := range r.Perm(few) {
			set(t, b, i+1, fewHops(r, i+1)...)
			drop(t, b, i+1, api.OK)
			set(t, b, i+1, moves[i+1]...)
		}
		if !slices.Equal(a.Segs(), b.Segs()) {
			t.Fatal("Segs answers otherwise")
		}
		for _, p := range fewPoints() {
			for range 2 {
				q, n, err := a.Find(p)
				found(t, b, p, q, n, err)
			}
		}
	}
}

// P1: whatever is handed in, calls end, and answer as the words say.
func TestGreatArguments(t *testing.T) {
	for _, b := range [][]byte{
		make([]byte, 1<<24),
		bytes.Repeat([]byte{128}, 1<<20),
		bytes.Repeat([]byte{255}, 1<<20),
		plainFrame(moveKind, make([]byte, 1<<20)),
		plainFrame(moveKind, bytes.Repeat([]byte{1}, 1<<20)),
		plainFrame(moveKind, bytes.Repeat([]byte{255}, 1<<20)),
		plainFrame(moveKind, bytes.Repeat([]byte{1}, 1<<21)),
	} {
		checkGet(t, b, api.ErrText)
	}
	great := make([]api.Hop, 1<<20)
	checkPut(t, 1, great, api.ErrArg)
	checkPut(t, math.MinInt, great, api.ErrArg)
	least := api.Point{Seg: math.MinInt, At: math.MinInt, Len: math.MinInt}
	most := api.Point{Seg: math.MaxInt, At: math.MaxInt, Len: math.MaxInt, Sum: math.MaxUint32}
	checkPut(t, math.MinInt, []api.Hop{{At: math.MinInt, To: least}}, api.ErrArg)
	checkPut(t, math.MaxInt, []api.Hop{{At: math.MaxInt, To: most}}, api.ErrArg)
	r := New()
	set(t, r, 1, rising(16384, 2)...)
	found(t, r, least, api.Point{}, 0, api.ErrArg)
	found(t, r, most, api.Point{}, 0, api.ErrArg)
	for i, h := range rising(16384, 2) {
		found(t, r, api.Point{Seg: 1, At: h.At, Len: h.To.Len, Sum: h.To.Sum}, h.To, 1, api.OK)
		lost(t, r, api.Point{Seg: 1, At: 3*i + 1, Len: h.To.Len, Sum: h.To.Sum})
	}
}
