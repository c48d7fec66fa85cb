package seg

import (
	"bytes"
	"slices"
	"testing"

	"garner/api"
)

// checkPut asks Put, and Walk of what was put.
func checkPut(t *testing.T, l [][]byte, want api.Errno) {
	t.Helper()
	wantBytes, wantErr := plainPut(l...)
	if wantErr != want {
		t.Fatalf("the words say %d of %d values, not %d", wantErr, len(l), want)
	}
	b, err := Put(l...)
	if err != want || !bytes.Equal(b, wantBytes) {
		t.Fatalf("Put of %d values: %d bytes, %d; want %d, %d", len(l), len(b), err, len(wantBytes), want)
	}
	if want != api.OK {
		if b != nil {
			t.Fatalf("Put of %d values: no nil beside error %d", len(l), err)
		}
		return
	}
	checkWalk(t, 7, b, len(l), len(b))
}

// Se1: bytes that are known.
func TestPutKnown(t *testing.T) {
	for _, c := range []struct {
		l    [][]byte
		want []byte
	}{
		{nil, nil},
		{[][]byte{}, nil},
		{[][]byte{nil}, []byte{0, 2, 0xa6, 0x23, 0x46, 0xb3}},
		{[][]byte{{}}, []byte{0, 2, 0xa6, 0x23, 0x46, 0xb3}},
		{[][]byte{{7, 8, 9}}, []byte{3, 2, 7, 8, 9, 0x5b, 0x14, 0x56, 0x66}},
		{
			[][]byte{{7, 8, 9}, nil, {7, 8, 9}},
			[]byte("\x03\x02\x07\x08\x09\x5b\x14\x56\x66\x00\x02\xa6\x23\x46\xb3\x03\x02\x07\x08\x09\x5b\x14\x56\x66"),
		},
	} {
		b, err := Put(c.l...)
		if err != api.OK || !bytes.Equal(b, c.want) {
			t.Errorf("Put(%v) = % x, %d; want % x", c.l, b, err, c.want)
		}
	}
}

// Se1, R5: no values at all, however they are handed in.
func TestPutOfNothing(t *testing.T) {
	if b, err := Put(); err != api.OK || len(b) != 0 {
		t.Errorf("Put() = %v, %d", b, err)
	}
	for _, l := range [][][]byte{nil, {}, make([][]byte, 0, 9)} {
		checkPut(t, l, api.OK)
	}
}

// Se1: a value of each length at which something turns.
func TestPutOfLengths(t *testing.T) {
	for _, n := range []int{0, 1, 2, 3, 126, 127, 128, 129, 300, 2048, 4094, 4095, 4096} {
		checkPut(t, [][]byte{bytesOf(n)}, api.OK)
		checkPut(t, [][]byte{bytesOf(n), bytesOf(1), bytesOf(n)}, api.OK)
	}
	for _, n := range []int{4097, 4098, 8192, 1 << 16, mostBody - 1, mostBody, mostBody + 1, 1 << 23} {
		checkPut(t, [][]byte{make([]byte, n)}, api.ErrBig)
	}
}

// Se1: several values, of which one alone is too long, at each place.
func TestPutOfOneTooLong(t *testing.T) {
	for _, n := range []int{mostValue + 1, mostBody + 1} {
		for count := 1; count <= 6; count++ {
			for i := range count {
				l := slices.Repeat([][]byte{bytesOf(mostValue)}, count)
				checkPut(t, l, api.OK)
				l[i] = make([]byte, n)
				checkPut(t, l, api.ErrBig)
			}
		}
	}
	checkPut(t, slices.Repeat([][]byte{make([]byte, mostValue+1)}, 3), api.ErrBig)
}

// Se1: values stand one behind the other, just as each would alone.
func TestPutOneBehindTheOther(t *testing.T) {
	r := newSource()
	for range 200 {
		l := someValues(r, r.Intn(12))
		checkPut(t, l, api.OK)
		var behind []byte
		for _, value := range l {
			b, err := Put(value)
			if err != api.OK {
				t.Fatal(err)
			}
			behind = append(behind, b...)
		}
		if b, _ := Put(l...); !bytes.Equal(b, behind) {
			t.Fatal("Put of all is not Put of each, one behind the other")
		}
	}
}

// Se1: no bound but that of each value: more values than a segment's bytes hold are put, too.
func TestPutOfMany(t *testing.T) {
	l := slices.Repeat([][]byte{bytesOf(mostValue), nil, {1}}, 1100)
	want, _ := plainPut(l...)
	b, err := Put(l...)
	if err != api.OK || len(b) <= mostBytes || !bytes.Equal(b, want) {
		t.Errorf("Put of %d values: %d bytes, %d", len(l), len(b), err)
	}
}
