package crc_test

import (
	"math/rand"
	"slices"

	"nacelle/api"
	"nacelle/crc"
)

// The signatures of the chapter.
var (
	_ func([]byte) uint32                  = crc.Sum
	_ func(uint32, []byte) uint32          = crc.Update
	_ func([]byte) []byte                  = crc.Append
	_ func([]byte) ([]byte, api.Errno)     = crc.Check
	_ func(a, b uint32, n int) uint32      = crc.Combine
	_ [crc.MaxBytes - 1<<20]struct{}       = [0]struct{}{}
	_ [crc.ErrSum - api.Errno(40)]struct{} = [0]struct{}{}
)

// bits returns the bits of a byte sequence, as the chapter defines them.
func bits(data []byte) []uint32 {
	var l []uint32
	for _, b := range data {
		for i := range 8 {
			l = append(l, uint32(b>>i&1))
		}
	}
	return l
}

// process follows the chapter's definition of processing a bit.
func process(register, bit uint32) uint32 {
	if register&1 != bit {
		return register>>1 ^ 0xEDB88320
	}
	return register >> 1
}

// sum follows the chapter's definition of the sum.
func sum(data []byte) uint32 {
	register := uint32(0xFFFFFFFF)
	for _, b := range bits(data) {
		register = process(register, b)
	}
	return ^register
}

// zeros processes 8 n bits 0.
func zeros(register uint32, n int) uint32 {
	for range 8 * n {
		register = process(register, 0)
	}
	return register
}

// withTrailer follows the chapter's definition of the trailer.
func withTrailer(data []byte, sum uint32) []byte {
	return append(slices.Clone(data), byte(sum), byte(sum>>8), byte(sum>>16), byte(sum>>24))
}

// fourBytes returns the sequence of four bytes that has the given sum.
func fourBytes(sum uint32) []byte {
	register := ^sum
	for range 32 {
		if register>>31 == 1 {
			register = (register^0xEDB88320)<<1 | 1
		} else {
			register <<= 1
		}
	}
	// Now 32 bits 0 lead from this register to the one of the sum. So do, from 0xFFFFFFFF on, the bits in which the two differ.
	register = ^register
	return []byte{byte(register), byte(register >> 8), byte(register >> 16), byte(register >> 24)}
}

func someBytes(r *rand.Rand, n int) []byte {
	l := make([]byte, n)
	r.Read(l)
	return l
}

// samples are sequences of many lengths: of equal bytes, of one set bit each, and arbitrary ones.
func samples(r *rand.Rand) [][]byte {
	l := [][]byte{nil}
	for i := range 256 {
		l = append(l, []byte{byte(i)})
	}
	for n := 1; n < 20; n++ {
		for _, b := range []byte{0, 1, 0x7F, 0x80, 0xFF} {
			l = append(l, slices.Repeat([]byte{b}, n))
		}
	}
	for i := range 8 * 9 {
		one := make([]byte, 9)
		one[i/8] = 1 << (i % 8)
		l = append(l, one)
	}
	for n := range 300 {
		l = append(l, someBytes(r, n))
	}
	return l
}
