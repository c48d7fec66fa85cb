package frame

import (
	"bytes"
	"hash/crc32"
	"math"
	"math/rand"
	"slices"
	"testing"

	"garner/api"
)

func newSource() *rand.Rand { return rand.New(rand.NewSource(3)) }

func bodyOf(n int) []byte {
	b := make([]byte, n)
	for i := range b {
		b[i] = byte(i*7 + n)
	}
	return b
}

// plainNumber goes by layer 2's words.
func plainNumber(u uint64) []byte {
	var b []byte
	for ; u >= 128; u /= 128 {
		b = append(b, byte(u%128)+128)
	}
	return append(b, byte(u))
}

func plainSum(b []byte) []byte {
	sum := crc32.Checksum(b, crc32.MakeTable(crc32.Castagnoli))
	return []byte{byte(sum), byte(sum >> 8), byte(sum >> 16), byte(sum >> 24)}
}

// plainBytes goes by the chapter's words, and shares nothing with the package; it puts any Kind of one byte and a body of any size.
func plainBytes(kind int, body []byte) []byte {
	summed := append([]byte{byte(kind)}, body...)
	b := append(plainNumber(uint64(len(body))), summed...)
	return append(b, plainSum(summed)...)
}

func somePlain(l []api.Frame) []byte {
	var b []byte
	for _, f := range l {
		b = append(b, plainBytes(f.Kind, f.Body)...)
	}
	return b
}

func sameFrame(a, b api.Frame) bool { return a.Kind == b.Kind && bytes.Equal(a.Body, b.Body) }

func sameFrames(a, b []api.Frame) bool { return slices.EqualFunc(a, b, sameFrame) }

func someFrames(r *rand.Rand) []api.Frame {
	l := make([]api.Frame, r.Intn(6))
	sizes := []int{0, 1, 2, 5, 126, 127, 128, 129, 300}
	for i := range l {
		body := make([]byte, sizes[r.Intn(len(sizes))])
		r.Read(body)
		l[i] = api.Frame{Kind: 1 + r.Intn(250), Body: body}
	}
	return l
}

// withTail is b as a part of longer memory, whose rest a call must leave as it is.
func withTail(b []byte) (part, whole []byte) {
	whole = append(slices.Clone(b), 1, 2, 3, 4, 5, 6, 7, 8)
	return whole[:len(b)], whole
}

// Fr1: bytes that are known.
func TestPutKnown(t *testing.T) {
	for _, c := range []struct {
		l    []api.Frame
		want []byte
	}{
		{nil, nil},
		{[]api.Frame{}, nil},
		{[]api.Frame{{Kind: 1}}, []byte{0, 1, 0x52, 0xd0, 0x16, 0xa0}},
		{[]api.Frame{{Kind: 1, Body: []byte{}}}, []byte{0, 1, 0x52, 0xd0, 0x16, 0xa0}},
		// Kind and body are the nine digits whose sum all the books tell.
		{[]api.Frame{{Kind: '1', Body: []byte("23456789")}}, append([]byte("\x08123456789"), 0x83, 0x92, 0x06, 0xe3)},
		{
			[]api.Frame{{Kind: 1}, {Kind: '1', Body: []byte("23456789")}, {Kind: 1}},
			[]byte("\x00\x01\x52\xd0\x16\xa0\x08123456789\x83\x92\x06\xe3\x00\x01\x52\xd0\x16\xa0"),
		},
	} {
		b, err := Put(c.l...)
		if err != api.OK || !bytes.Equal(b, c.want) {
			t.Errorf("Put(%v) = % x, %d; want % x", c.l, b, err, c.want)
		}
	}
}

// Example 1.
func TestPutExample(t *testing.T) {
	if b, err := Put(api.Frame{Kind: 1}); err != api.OK || len(b) != 6 {
		t.Errorf("a frame of Kind 1 without bytes has %d bytes, %d", len(b), err)
	}
}

// Fr1: the bytes of a frame, at the sizes where the number grows, at all Kinds that may be.
func TestPutSizes(t *testing.T) {
	for _, n := range []int{0, 1, 2, 126, 127, 128, 129, 16383, 16384, 16385, api.MaxBody - 1, api.MaxBody} {
		body := bodyOf(n)
		b, err := Put(api.Frame{Kind: 9, Body: body})
		if err != api.OK || !bytes.Equal(b, plainBytes(9, body)) {
			t.Errorf("Put of a body of %d bytes: %d bytes, %d", n, len(b), err)
		}
	}
	for kind := 1; kind <= 250; kind++ {
		b, err := Put(api.Frame{Kind: kind, Body: []byte{5, 6}})
		if err != api.OK || !bytes.Equal(b, plainBytes(kind, []byte{5, 6})) {
			t.Errorf("Put of Kind %d: % x, %d", kind, b, err)
		}
	}
}

// Fr1: frames that may not be, alone and at each place among others.
func TestPutWrong(t *testing.T) {
	good := api.Frame{Kind: 1, Body: []byte{1}}
	for _, bad := range []api.Frame{
		{},
		{Kind: 0, Body: []byte{1}},
		{Kind: 251},
		{Kind: 255},
		{Kind: 256},
		{Kind: 257, Body: []byte{1}},
		{Kind: -1},
		{Kind: -255},
		{Kind: math.MinInt},
		{Kind: math.MaxInt},
		{Kind: 1, Body: make([]byte, api.MaxBody+1)},
		{Kind: 250, Body: make([]byte, 2*api.MaxBody)},
	} {
		for _, l := range [][]api.Frame{{bad}, {bad, good, good}, {good, bad, good}, {good, good, bad}, {bad, bad}} {
			if b, err := Put(l...); err != api.ErrArg || b != nil {
				t.Errorf("Put with Kind %d, %d bytes: %d bytes, %d", bad.Kind, len(bad.Body), len(b), err)
			}
		}
	}
}

// Fr1: Head and Size.
func TestHeadSize(t *testing.T) {
	for _, c := range []struct{ n, head, size int }{
		{0, 2, 6},
		{1, 2, 7},
		{127, 2, 133},
		{128, 3, 135},
		{16383, 3, 16390},
		{16384, 4, 16392},
		{api.MaxBody - 1, 4, api.MaxBody + 7},
		{api.MaxBody, 4, api.MaxBody + 8},
		{api.MaxBody + 1, 0, 0},
		{math.MaxInt32, 0, 0},
		{math.MaxInt, 0, 0},
		{-1, 0, 0},
		{-128, 0, 0},
		{math.MinInt, 0, 0},
	} {
		if Head(c.n) != c.head || Size(c.n) != c.size {
			t.Errorf("Head(%d), Size(%d) = %d, %d; want %d, %d", c.n, c.n, Head(c.n), Size(c.n), c.head, c.size)
		}
	}
	for _, around := range []int{0, 128, 16384} {
		for n := max(0, around-200); n < around+200; n++ {
			b := plainBytes(1, make([]byte, n))
			if Head(n) != len(b)-4-n || Size(n) != len(b) {
				t.Errorf("Head(%d), Size(%d) = %d, %d; want %d, %d", n, n, Head(n), Size(n), len(b)-4-n, len(b))
			}
		}
	}
}

// Fr2: a frame, alone and with anything behind it.
func TestFirst(t *testing.T) {
	for _, n := range []int{0, 1, 127, 128, 16383, 16384, api.MaxBody} {
		for _, kind := range []int{1, 2, 127, 128, 249, 250} {
			f := api.Frame{Kind: kind, Body: bodyOf(n)}
			b := plainBytes(kind, f.Body)
			for _, behind := range [][]byte{nil, {0}, {255, 255, 255, 255}, plainBytes(3, []byte{1})} {
				got, size, err := First(slices.Concat(b, behind))
				if err != api.OK || size != len(b) || !sameFrame(got, f) {
					t.Errorf("First of Kind %d, %d bytes: Kind %d, %d bytes; %d, %d", kind, n, got.Kind, len(got.Body), size, err)
				}
			}
		}
	}
}

func wantFirst(t *testing.T, b []byte, want api.Errno) {
	t.Helper()
	f, size, err := First(b)
	if err != want || (want != api.OK && (f.Kind != 0 || len(f.Body) != 0 || size != 0)) {
		t.Errorf("First(% x) = %v, %d, %d; want %d", b[:min(len(b), 20)], f, size, err, want)
	}
}

// Fr2: bytes that end within a frame, at each place.
func TestFirstGap(t *testing.T) {
	wantFirst(t, nil, api.ErrGap)
	wantFirst(t, []byte{}, api.ErrGap)
	for _, n := range []int{0, 1, 5, 127, 128, 300} {
		b := plainBytes(250, bodyOf(n))
		for end := range b {
			wantFirst(t, b[:end], api.ErrGap)
		}
	}
	for _, n := range []int{16384, api.MaxBody} {
		b := plainBytes(1, bodyOf(n))
		for _, end := range []int{0, 1, 2, 3, 4, 5, n, n + 3, n + 4, n + 5, n + 6, n + 7} {
			wantFirst(t, b[:end], api.ErrGap)
		}
	}
	for x := 128; x < 256; x++ {
		wantFirst(t, []byte{byte(x)}, api.ErrGap)
		wantFirst(t, []byte{byte(x), 128}, api.ErrGap)
		wantFirst(t, []byte{128, byte(x)}, api.ErrGap)
		wantFirst(t, []byte{255, byte(x)}, api.ErrGap)
	}
}

// Fr2: a number that is none, or above MaxBody.
func TestFirstNumber(t *testing.T) {
	for _, head := range [][]byte{
		{128, 0},
		{255, 0},
		{128, 128, 0},
		{129, 255, 0},
		{128, 128, 128, 0},
		{129, 128, 64},     // MaxBody + 1
		{128, 128, 65},     // MaxBody + 2^14
		{255, 255, 127},    // 2^21 - 1
		{128, 128, 128, 1}, // 2^21
		{255, 255, 255, 127},
		{128, 128, 128, 128, 16}, // 2^32
		{128, 128, 128, 128, 128, 128, 128, 128, 128, 1},   // 2^63
		{129, 128, 128, 128, 128, 128, 128, 128, 128, 1},   // below 0 if read with a sign
		{255, 255, 255, 255, 255, 255, 255, 255, 255, 1},   // 2^64 - 1
		{128, 128, 128, 128, 128, 128, 128, 128, 128, 2},   // 2^64
		{129, 128, 128, 128, 128, 128, 128, 128, 128, 2},   // 2^64 + 1
		{129, 128, 128, 128, 128, 128, 128, 128, 128, 128}, // more than 64 bits, whatever is behind it
		{129, 128, 128, 128, 128, 128, 128, 128, 128, 128, 1},
		{255, 255, 255, 255, 255, 255, 255, 255, 255, 255, 255, 255},
	} {
		for _, behind := range [][]byte{nil, {0}, {1}, {251}, {1, 7, 0, 0, 0, 0}, make([]byte, 40)} {
			wantFirst(t, slices.Concat(head, behind), api.ErrText)
		}
	}
	b := plainBytes(1, make([]byte, api.MaxBody+1))
	wantFirst(t, b, api.ErrText)
	wantFirst(t, b[:len(b)-1], api.ErrText)
	wantFirst(t, b[:3], api.ErrText)
}

// Fr2: as many bytes as MaxBody's number has, and another one wanted: whatever is behind them, no frame begins so.
func TestFirstNumberWithoutEnd(t *testing.T) {
	for n := 3; n < 30; n++ {
		for _, x := range []byte{128, 129, 255} {
			wantFirst(t, bytes.Repeat([]byte{x}, n), api.ErrText)
		}
	}
}

// Fr2: a Kind that may not be, however much is behind it.
func TestFirstKind(t *testing.T) {
	for _, kind := range []int{0, 251, 252, 253, 254, 255} {
		for _, n := range []int{0, 1, 127, 128, 16384} {
			b := plainBytes(kind, bodyOf(n))
			head := len(b) - n - 4
			for _, end := range []int{head, head + 1, len(b) - 1, len(b)} {
				wantFirst(t, b[:end], api.ErrText)
			}
			wantFirst(t, b[:head-1], api.ErrGap)
		}
	}
}

// Fr2: each bit of a frame's Kind, Body and sum counts.
func TestFirstSum(t *testing.T) {
	for _, n := range []int{0, 1, 20, 130} {
		b := plainBytes(100, bodyOf(n))
		for bit := (len(b) - n - 5) * 8; bit < len(b)*8; bit++ {
			bad := slices.Clone(b)
			bad[bit/8] ^= 1 << (bit % 8)
			wantFirst(t, bad, api.ErrText)
			wantFirst(t, append(bad, 1, 2, 3), api.ErrText)
		}
	}
	// The sum is its bytes with the lowest first, and of the Kind too.
	wantFirst(t, []byte{0, 1, 0xa0, 0x16, 0xd0, 0x52}, api.ErrText)
	wantFirst(t, append([]byte{1, 1, 7}, plainSum([]byte{7})...), api.ErrText)
	wantFirst(t, append([]byte{1, 1, 7}, plainSum([]byte{1, 1, 7})...), api.ErrText)
}

// Fr2: what is asked first, where several are so.
func TestFirstOrder(t *testing.T) {
	for _, c := range []struct {
		what string
		b    []byte
		want api.Errno
	}{
		{"number too great, Kind may not be, ends", []byte{129, 128, 64, 0}, api.ErrText},
		{"number too great, ends ahead of the Kind", []byte{129, 128, 64}, api.ErrText},
		{"number is none, ends", []byte{128, 0}, api.ErrText},
		{"Kind may not be, ends within the Body", []byte{3, 0, 1}, api.ErrText},
		{"Kind may not be, ends behind it", []byte{3, 251}, api.ErrText},
		{"Kind may not be, sum another one", []byte{0, 0, 1, 2, 3, 4}, api.ErrText},
		{"ends within the sum, what is there of it another one", []byte{0, 1, 1, 2, 3}, api.ErrGap},
		{"ends ahead of the last byte of the sum", []byte{0, 1, 0x52, 0xd0, 0x16}, api.ErrGap},
		{"sum another one", []byte{0, 1, 1, 2, 3, 4}, api.ErrText},
		{"ends ahead of the Kind", []byte{0}, api.ErrGap},
	} {
		if _, _, err := First(c.b); err != c.want {
			t.Errorf("%s: First(% x): %d, want %d", c.what, c.b, err, c.want)
		}
	}
}

// plainFirst goes by Fr2's words, in their order, byte by byte.
func plainFirst(b []byte) (api.Frame, int, api.Errno) {
	number := []byte{}
	for _, x := range b {
		number = append(number, x)
		if x < 128 {
			break
		}
	}
	whole := len(number) > 0 && number[len(number)-1] < 128
	n := 0
	for i := min(len(number), 4) - 1; i >= 0; i-- {
		n = n*128 + int(number[i]%128)
	}
	switch {
	case len(number) > 3, whole && n > 1<<20, whole && !bytes.Equal(plainNumber(uint64(n)), number):
		return api.Frame{}, 0, api.ErrText
	case len(number) == 3 && !whole:
		return api.Frame{}, 0, api.ErrText
	case !whole:
		return api.Frame{}, 0, api.ErrGap
	}
	rest := b[len(number):]
	if len(rest) > 0 && (rest[0] < 1 || rest[0] > 250) {
		return api.Frame{}, 0, api.ErrText
	}
	if len(rest) < 1+n+4 {
		return api.Frame{}, 0, api.ErrGap
	}
	if !bytes.Equal(plainSum(rest[:1+n]), rest[1+n:1+n+4]) {
		return api.Frame{}, 0, api.ErrText
	}
	return api.Frame{Kind: int(rest[0]), Body: rest[1 : 1+n]}, len(number) + 1 + n + 4, api.OK
}

func checkAsPlain(t *testing.T, b []byte) {
	t.Helper()
	f, size, err := First(b)
	wantF, wantSize, wantErr := plainFirst(b)
	if err != wantErr || size != wantSize || !sameFrame(f, wantF) {
		t.Fatalf("First(% x) = %v, %d, %d; want %v, %d, %d", b, f, size, err, wantF, wantSize, wantErr)
	}
}

// Fr2: all of two bytes, many of more, and frames that are spoilt anywhere.
func TestFirstAsWords(t *testing.T) {
	for u := range 1 << 16 {
		checkAsPlain(t, []byte{byte(u)})
		checkAsPlain(t, []byte{byte(u), byte(u >> 8)})
		checkAsPlain(t, []byte{128 | byte(u), 128 | byte(u>>3), byte(u >> 8)})
		checkAsPlain(t, []byte{byte(u), byte(u >> 8), 1, 2, 3, 4})
	}
	r := newSource()
	for range 20000 {
		b := make([]byte, r.Intn(14))
		r.Read(b)
		checkAsPlain(t, b)
		b = somePlain(someFrames(r))
		if len(b) > 0 && r.Intn(2) == 0 {
			b[r.Intn(min(len(b), 9))] ^= 1 << r.Intn(8)
		}
		checkAsPlain(t, b[:len(b)-r.Intn(min(len(b), 9)+1)])
	}
}

// Fr2: the frames that bytes begin with, and where they stand.
func TestScanKnown(t *testing.T) {
	one, two := plainBytes(1, []byte{7}), plainBytes(2, bodyOf(128))
	spoilt := slices.Clone(two)
	spoilt[9] ^= 1
	f1, f2 := api.Frame{Kind: 1, Body: []byte{7}}, api.Frame{Kind: 2, Body: bodyOf(128)}
	for _, c := range []struct {
		b      []byte
		frames []api.Frame
		places []int
		size   int
	}{
		{nil, nil, nil, 0},
		{[]byte{}, nil, nil, 0},
		{[]byte{0}, nil, nil, 0},
		{[]byte{128, 0}, nil, nil, 0},
		{spoilt, nil, nil, 0},
		{slices.Concat(spoilt, one), nil, nil, 0},
		{one, []api.Frame{f1}, []int{2}, 7},
		{slices.Concat(one, two), []api.Frame{f1, f2}, []int{2, 10}, 142},
		{slices.Concat(two, one, two), []api.Frame{f2, f1, f2}, []int{3, 137, 145}, 277},
		{slices.Concat(one, spoilt, one), []api.Frame{f1}, []int{2}, 7},
		{slices.Concat(one, two, []byte{0, 0, 0}), []api.Frame{f1, f2}, []int{2, 10}, 142},
		{slices.Concat(one, two, []byte{255, 255, 255, 255}), []api.Frame{f1, f2}, []int{2, 10}, 142},
		{slices.Concat(one, two, two[:len(two)-1]), []api.Frame{f1, f2}, []int{2, 10}, 142},
	} {
		frames, places, size := Scan(c.b)
		if !sameFrames(frames, c.frames) || !slices.Equal(places, c.places) || size != c.size {
			t.Errorf("Scan(% x) = %v, %v, %d; want %v, %v, %d", c.b, frames, places, size, c.frames, c.places, c.size)
		}
	}
}

// Fr3: what is put is scanned, all of it, and each body stands at its place.
func TestPutIsScanned(t *testing.T) {
	r := newSource()
	for range 500 {
		l := someFrames(r)
		b, err := Put(l...)
		if err != api.OK || !bytes.Equal(b, somePlain(l)) {
			t.Fatalf("Put: %d", err)
		}
		frames, places, size := Scan(b)
		if !sameFrames(frames, l) || size != len(b) || len(places) != len(l) {
			t.Fatalf("Scan of what is put: %d of %d frames, %d of %d bytes", len(frames), len(l), size, len(b))
		}
		at := 0
		for i, f := range l {
			if places[i] != at+Head(len(f.Body)) || !bytes.Equal(b[places[i]:places[i]+len(f.Body)], f.Body) {
				t.Fatalf("place %d: %d", i, places[i])
			}
			at += Size(len(f.Body))
		}
	}
}

// Fr3: of each beginning just the frames that end within are scanned, and what is left is ErrGap, or nothing.
func TestBeginnings(t *testing.T) {
	l := []api.Frame{{Kind: 1}, {Kind: 250, Body: bodyOf(127)}, {Kind: 7, Body: bodyOf(300)}, {Kind: 1, Body: []byte{0}}, {Kind: 1}}
	b, _ := Put(l...)
	for end := range len(b) + 1 {
		within, size := 0, 0
		for within < len(l) && size+Size(len(l[within].Body)) <= end {
			size += Size(len(l[within].Body))
			within++
		}
		frames, places, got := Scan(b[:end])
		if !sameFrames(frames, l[:within]) || len(places) != within || got != size {
			t.Fatalf("Scan of %d bytes: %d frames, %d bytes; want %d, %d", end, len(frames), got, within, size)
		}
		if got < end {
			wantFirst(t, b[got:end], api.ErrGap)
		}
	}
}

func TestBeginningsOfLong(t *testing.T) {
	b, _ := Put(api.Frame{Kind: 3, Body: bodyOf(api.MaxBody)}, api.Frame{Kind: 4})
	for _, c := range []struct{ end, frames, size int }{
		{0, 0, 0},
		{3, 0, 0},
		{api.MaxBody + 7, 0, 0},
		{api.MaxBody + 8, 1, api.MaxBody + 8},
		{api.MaxBody + 13, 1, api.MaxBody + 8},
		{api.MaxBody + 14, 2, api.MaxBody + 14},
	} {
		frames, places, size := Scan(b[:c.end])
		if len(frames) != c.frames || len(places) != c.frames || size != c.size {
			t.Errorf("Scan of %d bytes: %d frames, %d bytes", c.end, len(frames), size)
		}
	}
}

// R3: no call writes to what it is handed, nor behind its end.
func TestNothingIsWritten(t *testing.T) {
	body, wholeBody := withTail(bodyOf(20))
	l := []api.Frame{{Kind: 1, Body: body}, {Kind: 2, Body: body[:3]}, {Kind: 3}}
	keptBody := slices.Clone(wholeBody)
	b, _ := Put(l...)
	Put(append(l[:2:2], api.Frame{})...)
	if !bytes.Equal(wholeBody, keptBody) || l[0].Kind != 1 || l[1].Kind != 2 || l[2].Kind != 3 || len(l[0].Body) != 20 || len(l[1].Body) != 3 || l[2].Body != nil {
		t.Error("Put wrote to its frames")
	}
	for end := range len(b) + 1 {
		part, whole := withTail(b[:end])
		kept := slices.Clone(whole)
		First(part)
		Scan(part)
		if !bytes.Equal(whole, kept) {
			t.Fatalf("First or Scan of %d bytes wrote to them", end)
		}
	}
}

// R3: what is told is no part of what was handed in, nor of other things told.
func TestAnswersAreNew(t *testing.T) {
	body := []byte{1, 2, 3}
	b, _ := Put(api.Frame{Kind: 1, Body: body}, api.Frame{Kind: 2, Body: body})
	kept := slices.Clone(b)
	body[0] = 9
	if !bytes.Equal(b, kept) {
		t.Error("Put's bytes hang on the body")
	}
	f, _, _ := First(b)
	l, _, _ := Scan(b)
	again, _, _ := Scan(b)
	spoil := func(x []byte) {
		x = x[:cap(x)]
		for i := range x {
			x[i] ^= 255
		}
	}
	spoil(f.Body)
	spoil(l[0].Body)
	if !bytes.Equal(b, kept) {
		t.Error("a body that is told is a part of the bytes")
	}
	if !bytes.Equal(l[1].Body, []byte{1, 2, 3}) {
		t.Error("bodies that are told share memory")
	}
	spoil(b)
	if !bytes.Equal(l[1].Body, []byte{1, 2, 3}) || !bytes.Equal(again[0].Body, []byte{1, 2, 3}) {
		t.Error("a body that is told hangs on the bytes")
	}
}

// R4: the same answers, again and again, whatever the memory around the bytes is.
func TestSameAgain(t *testing.T) {
	r := newSource()
	for range 200 {
		l := someFrames(r)
		a, _ := Put(l...)
		b, _ := Put(l...)
		if !bytes.Equal(a, b) {
			t.Fatal("Put answers otherwise")
		}
		part, _ := withTail(a[:r.Intn(len(a)+1)])
		f1, p1, n1 := Scan(part)
		f2, p2, n2 := Scan(slices.Clip(slices.Clone(part)))
		if !sameFrames(f1, f2) || !slices.Equal(p1, p2) || n1 != n2 {
			t.Fatal("Scan answers otherwise")
		}
	}
}

// R5: a body without bytes, and no body, are the same.
func TestNoBody(t *testing.T) {
	a, _ := Put(api.Frame{Kind: 5})
	b, _ := Put(api.Frame{Kind: 5, Body: []byte{}})
	if !bytes.Equal(a, b) {
		t.Errorf("% x, % x", a, b)
	}
	f, size, err := First(a)
	if err != api.OK || size != 6 || f.Kind != 5 || len(f.Body) != 0 {
		t.Errorf("First = %v, %d, %d", f, size, err)
	}
}

// P1: whatever bytes there are, Scan ends, and tells just what is there.
func TestScanOfAnything(t *testing.T) {
	r := newSource()
	for range 5000 {
		b := somePlain(someFrames(r))
		for range r.Intn(3) {
			if len(b) > 0 {
				b[r.Intn(len(b))] = byte(r.Intn(256))
			}
		}
		frames, places, size := Scan(b)
		at := 0
		for i, f := range frames {
			want, n, err := plainFirst(b[at:])
			if err != api.OK || !sameFrame(f, want) || places[i] != at+n-4-len(f.Body) {
				t.Fatalf("Scan(% x), frame %d", b, i)
			}
			at += n
		}
		if _, _, err := plainFirst(b[at:]); err == api.OK || size != at || len(places) != len(frames) {
			t.Fatalf("Scan(% x) ends at %d of %d", b, size, at)
		}
	}
}
