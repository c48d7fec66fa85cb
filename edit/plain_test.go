package edit

import (
	"bytes"
	"encoding/binary"
	"math/rand"
	"slices"

	"garner/api"
)

// The chapter's words done plainly, with numbers of their own; they share nothing with the package, nor with the layers below.

const (
	mostCount = 1<<31 - 1
	mostEdits = 200
	mostLevel = 4
	mostSize  = 1 << 30
	mostKey   = 64

	kindSeg     = 1
	kindMove    = 2
	kindUnmove  = 3
	kindTab     = 4
	kindUntab   = 5
	kindStill   = 6
	kindUnstill = 7
	kindBase    = 8
	kindMark    = 9
)

// parts are what is named of each kind, by letters: N is Num, I Index, T Term, t, v and c Hard's Term, Vote and Commit, b the Tab.
func parts(kind int) string {
	switch kind {
	case kindSeg, kindUntab:
		return "N"
	case kindMove:
		return "NI"
	case kindUnmove, kindUnstill, kindMark:
		return "I"
	case kindTab:
		return "b"
	case kindStill:
		return "NIT"
	case kindBase:
		return "NITtvc"
	}
	return ""
}

// at is where a part that is a number stands in an edit.
func at(e *api.Edit, part rune) *int {
	switch part {
	case 'N':
		return &e.Num
	case 'I':
		return &e.Index
	case 'T':
		return &e.Term
	case 't':
		return &e.Hard.Term
	case 'v':
		return &e.Hard.Vote
	}
	return &e.Hard.Commit
}

func plainCounts(n int) bool { return n >= 1 && n <= mostCount }

func plainUpTo(n int) bool { return n >= 0 && n <= mostCount }

func plainTabMayBe(x api.Tab) bool {
	if !plainCounts(x.Num) || x.Level < 0 || x.Level > mostLevel || x.Size < 0 || x.Size > mostSize {
		return false
	}
	if len(x.First) < 1 || len(x.First) > mostKey || len(x.Last) < 1 || len(x.Last) > mostKey {
		return false
	}
	return bytes.Compare([]byte(x.First), []byte(x.Last)) <= 0
}

func plainTabNought(x api.Tab) bool {
	return x.Num == 0 && x.Level == 0 && x.Size == 0 && x.First == "" && x.Last == ""
}

// plainMayBe goes by the chapter's words.
func plainMayBe(e api.Edit) bool {
	hardNought := e.Hard.Term == 0 && e.Hard.Vote == 0 && e.Hard.Commit == 0
	tabNought := plainTabNought(e.Tab)
	switch e.Kind {
	case kindSeg, kindUntab:
		return plainCounts(e.Num) && e.Index == 0 && e.Term == 0 && hardNought && tabNought
	case kindMove:
		return plainUpTo(e.Num) && plainCounts(e.Index) && e.Term == 0 && hardNought && tabNought
	case kindUnmove, kindUnstill, kindMark:
		return e.Num == 0 && plainCounts(e.Index) && e.Term == 0 && hardNought && tabNought
	case kindTab:
		return e.Num == 0 && e.Index == 0 && e.Term == 0 && hardNought && plainTabMayBe(e.Tab)
	case kindStill:
		return plainCounts(e.Num) && plainCounts(e.Index) && plainCounts(e.Term) && hardNought && tabNought
	case kindBase:
		if e.Index == 0 != (e.Term == 0) || !plainUpTo(e.Index) || !plainUpTo(e.Term) {
			return false
		}
		return plainCounts(e.Num) && plainUpTo(e.Hard.Term) && plainUpTo(e.Hard.Vote) && plainUpTo(e.Hard.Commit) && tabNought
	}
	return false
}

func plainAllMayBe(l []api.Edit) bool {
	for _, e := range l {
		if !plainMayBe(e) {
			return false
		}
	}
	return len(l) >= 1 && len(l) <= mostEdits
}

// number goes by the library's numbers, and shares nothing with layer 2.
func number(n int) []byte { return binary.AppendUvarint(nil, uint64(n)) }

// oneBytes goes by the chapter's words; it puts edits that may not be, too.
func oneBytes(e api.Edit) []byte {
	b := []byte{byte(e.Kind)}
	for _, part := range parts(e.Kind) {
		if part != 'b' {
			b = append(b, number(*at(&e, part))...)
			continue
		}
		x := e.Tab
		b = slices.Concat(b, number(x.Num), number(x.Level), number(x.Size))
		b = slices.Concat(b, number(len(x.First)), []byte(x.First), number(len(x.Last)), []byte(x.Last))
	}
	return b
}

// counted are the bytes of edits, with any number of them ahead.
func counted(n uint64, l ...api.Edit) []byte {
	b := binary.AppendUvarint(nil, n)
	for _, e := range l {
		b = append(b, oneBytes(e)...)
	}
	return b
}

func plainBytes(l []api.Edit) []byte { return counted(uint64(len(l)), l...) }

func plainAlike(a, b api.Edit) bool {
	for _, part := range "NITtvc" {
		if *at(&a, part) != *at(&b, part) {
			return false
		}
	}
	x, y := a.Tab, b.Tab
	return a.Kind == b.Kind && x.Num == y.Num && x.Level == y.Level && x.Size == y.Size && x.First == y.First && x.Last == y.Last
}

func plainSame(a, b []api.Edit) bool {
	if len(a) != len(b) {
		return false
	}
	for i := range a {
		if !plainAlike(a[i], b[i]) {
			return false
		}
	}
	return true
}

// reader takes parts off bytes, and is wrong once there were too few.
type reader struct {
	b     []byte
	wrong bool
}

func (r *reader) take(n uint64) []byte {
	if n > uint64(len(r.b)) {
		r.wrong, n = true, uint64(len(r.b))
	}
	part := r.b[:n]
	r.b = r.b[n:]
	return part
}

func (r *reader) number() uint64 {
	u, n := binary.Uvarint(r.b)
	if n <= 0 {
		r.wrong, n = true, len(r.b)
	}
	r.b = r.b[n:]
	return u
}

func (r *reader) edit() api.Edit {
	var e api.Edit
	for _, x := range r.take(1) {
		e.Kind = int(x)
	}
	for _, part := range parts(e.Kind) {
		if part != 'b' {
			*at(&e, part) = int(r.number())
			continue
		}
		e.Tab.Num, e.Tab.Level, e.Tab.Size = int(r.number()), int(r.number()), int(r.number())
		e.Tab.First = string(r.take(r.number()))
		e.Tab.Last = string(r.take(r.number()))
	}
	return e
}

// plainGet reads loosely: they are edits' bytes just if what was read are edits whose bytes they are.
func plainGet(b []byte) ([]api.Edit, api.Errno) {
	r := &reader{b: b}
	n := r.number()
	var l []api.Edit
	for i := 0; uint64(i) < n && !r.wrong && i <= mostEdits; i++ {
		l = append(l, r.edit())
	}
	if r.wrong || !plainAllMayBe(l) || !bytes.Equal(plainBytes(l), b) {
		return nil, api.ErrText
	}
	return l, api.OK
}

func newSource() *rand.Rand { return rand.New(rand.NewSource(16)) }

func someBytes(r *rand.Rand, n int) []byte {
	b := make([]byte, n)
	for i := range b {
		b[i] = byte(r.Intn(256))
	}
	return b
}

// someCount counts, and has any count of bits.
func someCount(r *rand.Rand) int { return 1 + r.Intn(mostCount)>>r.Intn(31) }

func someKey(r *rand.Rand) string { return string(someBytes(r, 1+r.Intn(mostKey)>>r.Intn(7))) }

func someTab(r *rand.Rand) api.Tab {
	x := api.Tab{Num: someCount(r), Level: r.Intn(5), Size: r.Intn(mostSize+1) >> r.Intn(31), First: someKey(r), Last: someKey(r)}
	if x.First > x.Last {
		x.First, x.Last = x.Last, x.First
	}
	if r.Intn(8) == 0 {
		x.Last = x.First
	}
	return x
}

// someOf is an edit of a kind that may be.
func someOf(r *rand.Rand, kind int) api.Edit {
	e := api.Edit{Kind: kind}
	for _, part := range parts(kind) {
		if part == 'b' {
			e.Tab = someTab(r)
			continue
		}
		*at(&e, part) = someCount(r)
		if part > 'a' && r.Intn(3) == 0 {
			*at(&e, part) = 0
		}
	}
	if kind == kindMove && r.Intn(3) == 0 {
		e.Num = 0
	}
	if kind == kindBase && r.Intn(3) == 0 {
		e.Index, e.Term = 0, 0
	}
	return e
}

func someEdits(r *rand.Rand, n int) []api.Edit {
	l := make([]api.Edit, n)
	for i := range l {
		l[i] = someOf(r, 1+r.Intn(9))
	}
	return l
}
