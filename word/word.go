// Package word is layer 1: see shared/doc/01-word.md.
package word

import (
	"math/bits"
	"slices"

	"attic/api"
)

const (
	numMax      = 8          // bytes of the longest number that Num writes
	uvarBits    = 7          // of a number in each byte of its Uvar
	uvarMore    = 128        // in a byte of an Uvar that is not its last one
	uvarLast    = 9          // where the tenth byte of an Uvar stands
	uvarLastMax = 1          // the one bit of 64 that nine bytes have left over
	sumBytes    = 4          // of a sum
	sumTurned   = 0x82f63b78 // CRC-32C's polynomial, its bits turned round
)

// Num is a number's bytes.
func Num(n int, v uint64) []byte {
	if !isWidth(n) {
		return nil
	}
	b := make([]byte, n)
	for i := range n {
		b[i] = byte(v >> (8 * i))
	}
	return b
}

// Get is a number that stands in bytes.
func Get(b []byte, at, n int) (uint64, bool) {
	// at is held against a difference: a sum of at and n might wrap round.
	if !isWidth(n) || at < 0 || at > len(b)-n {
		return 0, false
	}
	var v uint64
	for i := range n {
		v |= uint64(b[at+i]) << (8 * i)
	}
	return v, true
}

// Uvar is a number in as few bytes as can be.
func Uvar(v uint64) []byte {
	n := uvarLen(v)
	b := make([]byte, n)
	for i := range n {
		b[i] = byte(v>>(uvarBits*i)) | uvarMore
	}
	b[n-1] &^= uvarMore
	return b
}

// TakeUvar takes one from bytes.
func TakeUvar(b []byte) (uint64, int, api.Errno) {
	var v uint64
	for i, c := range b {
		if i == uvarLast && c > uvarLastMax {
			return 0, 0, api.ErrUvar
		}
		v |= uint64(c&^uvarMore) << (uvarBits * i)
		if c >= uvarMore {
			continue
		}
		if i > 0 && c == 0 {
			return 0, 0, api.ErrUvar
		}
		return v, i + 1, api.OK
	}
	return 0, 0, api.ErrShort
}

// Sum is bytes' sum.
func Sum(b []byte) uint32 {
	s := ^uint32(0)
	for _, c := range b {
		s ^= uint32(c)
		for range 8 {
			// The bit that goes out, made a mask: no branch hangs on the bytes.
			s = s>>1 ^ sumTurned&-(s&1)
		}
	}
	return ^s
}

// Seal is bytes with their sum.
func Seal(b []byte) []byte {
	return slices.Concat(b, Num(sumBytes, uint64(Sum(b))))
}

// Unseal is the bytes ahead of their sum.
func Unseal(b []byte) ([]byte, api.Errno) {
	end := len(b) - sumBytes
	if end < 0 {
		return nil, api.ErrShort
	}
	if s, _ := Get(b, end, sumBytes); s != uint64(Sum(b[:end])) {
		return nil, api.ErrSum
	}
	return own(b[:end]), api.OK
}

func isWidth(n int) bool { return n >= 1 && n <= numMax }

func uvarLen(v uint64) int {
	// 0 has no bit at all, but is written as one byte all the same.
	return (bits.Len64(v|1) + uvarBits - 1) / uvarBits
}

// own is b in memory that nobody else has.
func own(b []byte) []byte { return append([]byte(nil), b...) }
