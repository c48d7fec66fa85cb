// Package crc is layer 1: a sum of bytes: see shared/doc/01-crc.md.
package crc

const (
	bitsPerByte = 8
	turn        = 0x82F63B78
)

// Of is the sum of bytes.
func Of(b []byte) uint32 { return More(0, b) }

// More is the sum of bytes with others behind them.
func More(sum uint32, b []byte) uint32 {
	// A sum is the register with all its bits turned, so turning them back
	// goes on where it ended; the sum of nothing, 0, gives the first register.
	register := ^sum
	for _, x := range b {
		register = take(register, x)
	}
	return ^register
}

// Add is three sums, put together.
func Add(a, b, c []byte) uint32 { return Of(a) ^ Of(b) ^ Of(c) }

// take is the register behind one more byte.
func take(register uint32, x byte) uint32 {
	// All the byte's bits are laid on the register at once: each reaches the
	// lowest place just when it is its turn, and whatever is laid on it on
	// the way is laid on by exclusive or, which asks for no order.
	register ^= uint32(x)
	for range bitsPerByte {
		// The lowest bit as a mask, not as a branch: it is as good as random,
		// so a branch on it would be guessed wrong half of the time.
		unlike := -(register & 1)
		register = register>>1 ^ turn&unlike
	}
	return register
}
