package sieve

import (
	"hash/crc32"
	"math/big"
	"math/rand"
	"strings"
)

// The chapter's words, done plainly, with numbers of any size, a text of zeros and ones, and hash/crc32 for the sum; they share nothing with the package.

const (
	mostKeys  = 65536
	mostBytes = 1 << 20
)

func plainSum(key string) uint32 {
	return crc32.Checksum([]byte(key), crc32.MakeTable(crc32.Castagnoli))
}

// plainTurn turns round bit by bit: the one that falls out on the left comes in on the right.
func plainTurn(h uint32) *big.Int {
	for range 17 {
		out := h >> 31
		h <<= 1
		h |= out
	}
	if h%2 == 0 {
		h++
	}
	return new(big.Int).SetUint64(uint64(h))
}

func plainBits(n int, key string) []int {
	var l []int
	if n < 1 || n > mostBytes {
		return l
	}
	h := new(big.Int).SetUint64(uint64(plainSum(key)))
	d := plainTurn(plainSum(key))
	for i := range int64(6) {
		x := new(big.Int).Mul(big.NewInt(i), d)
		x.Add(x, h)
		x.Mod(x, big.NewInt(1<<32))
		x.Mod(x, big.NewInt(8*int64(n)))
		l = append(l, int(x.Int64()))
	}
	return l
}

// plainOf writes each bit as a letter, and makes bytes of eight of them.
func plainOf(keys []string) []byte {
	if len(keys) > mostKeys {
		return nil
	}
	n := len(keys) + len(keys)/10 + 1
	letters := []byte(strings.Repeat("0", 8*n))
	for _, key := range keys {
		for _, bit := range plainBits(n, key) {
			letters[bit] = '1'
		}
	}
	b := make([]byte, n)
	for i := range b {
		for k, letter := range letters[8*i : 8*i+8] {
			if letter == '1' {
				b[i] += byte([]int{1, 2, 4, 8, 16, 32, 64, 128}[k])
			}
		}
	}
	return b
}

func plainIsSet(b []byte, bit int) bool { return b[bit/8]>>(bit%8)%2 == 1 }

func plainHas(b []byte, key string) bool {
	if len(b) == 0 || len(b) > mostBytes {
		return true
	}
	missing := 0
	for _, bit := range plainBits(len(b), key) {
		if !plainIsSet(b, bit) {
			missing++
		}
	}
	return missing == 0
}

// keyOfSum is four bytes that have a sum: the register runs backwards through 32 bits, and the turn's highest bit, which is set, tells whether there was one.
func keyOfSum(sum uint32) string {
	register := ^sum
	for range 32 {
		turned := register >> 31
		if turned == 1 {
			register ^= 0x82F63B78
		}
		register = register<<1 | turned
	}
	register = ^register
	return string([]byte{byte(register), byte(register >> 8), byte(register >> 16), byte(register >> 24)})
}

func newSource() *rand.Rand { return rand.New(rand.NewSource(11)) }

func someBytes(r *rand.Rand, n int) []byte {
	b := make([]byte, n)
	r.Read(b)
	return b
}

func someKey(r *rand.Rand) string { return string(someBytes(r, r.Intn(40))) }

func someKeys(r *rand.Rand, n int) []string {
	l := make([]string, n)
	for i := range l {
		l[i] = someKey(r)
	}
	return l
}

// manyKeys: the empty key, each single byte, short and long ones, texts, and keys of sums at the edges.
func manyKeys() []string {
	l := []string{"", "a", "b", "ab", "123456789", "garner", "\x00", "\x00\x00", "\xff\xff\xff\xff", "käse", "\xc3\x28",
		strings.Repeat("k", 64), strings.Repeat("k", 65), strings.Repeat("\x00", 1000), strings.Repeat("long", 1<<16)}
	for x := range 256 {
		l = append(l, string([]byte{byte(x)}))
	}
	for i := range 32 {
		l = append(l, keyOfSum(1<<i), keyOfSum(1<<i-1), keyOfSum(-(1 << i)))
	}
	r := newSource()
	for range 100 {
		l = append(l, someKey(r))
	}
	return l
}

// manySizes: the edges, all small ones, and some between.
func manySizes() []int {
	l := []int{mostBytes, mostBytes - 1, mostBytes/2 + 1, 72090, 65536, 65535, 12345, 1000}
	for n := 1; n <= 40; n++ {
		l = append(l, n)
	}
	return l
}
