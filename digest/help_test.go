package digest_test

import (
	"bytes"
	"math"
	"math/big"
	"math/rand"

	"nacelle/api"
	"nacelle/digest"
)

// The signatures of the chapter.
var (
	_ func() digest.State                      = digest.New
	_ func(digest.State, []byte) digest.State  = digest.Add
	_ func(digest.State) uint64                = digest.Finish
	_ func([]byte) uint64                      = digest.Of
	_ func(a, b uint64) uint64                 = digest.Pair
	_ func(uint64) []byte                      = digest.Bytes
	_ func(uint64) string                      = digest.Text
	_ func(string) (uint64, api.Errno)         = digest.Parse
	_                                          = state(digest.State{})
	_ [digest.ErrText - api.Errno(50)]struct{} = [0]struct{}{}
)

// state has the fields of the chapter.
type state struct {
	Sum uint64
	Len int
}

// modulus is 2^64.
func modulus() *big.Int { return new(big.Int).Lsh(big.NewInt(1), 64) }

func number(x uint64) *big.Int { return new(big.Int).SetUint64(x) }

// plusLeft follows the chapter: s shifted left by n bits is added to s.
func plusLeft(s *big.Int, n uint) *big.Int {
	moved := new(big.Int).Lsh(s, n)
	moved.Mod(moved, modulus())
	return moved.Mod(moved.Add(moved, s), modulus())
}

// rotated follows the chapter: s is rotated left by n bits, one at a time.
func rotated(s *big.Int, n int) *big.Int {
	for range n {
		top := number(uint64(s.Bit(63)))
		s = new(big.Int).Lsh(s, 1)
		s.Mod(s, modulus()).Add(s, top)
	}
	return s
}

// added follows the chapter's definition of adding bytes to a value.
func added(sum uint64, data []byte) uint64 {
	s := number(sum)
	for _, v := range data {
		s = new(big.Int).Xor(s, number(uint64(v)))
		s = rotated(plusLeft(s, 28), 20)
	}
	return s.Uint64()
}

// finished follows the chapter's definition of finishing.
func finished(sum uint64, n int) uint64 {
	length := big.NewInt(int64(n))
	s := new(big.Int).Xor(number(sum), length.Mod(length, modulus()))
	for range 2 {
		s = plusLeft(s, 36)
		s = new(big.Int).Xor(s, new(big.Int).Rsh(s, 28))
	}
	return s.Uint64()
}

// whole is the digest of data by the definitions.
func whole(data []byte) uint64 { return finished(added(0x6E6163656C6C6521, data), len(data)) }

// eight follows the chapter's definition of the bytes of a number.
func eight(x uint64) []byte {
	l := make([]byte, 8)
	for i := range l {
		l[i] = byte(new(big.Int).Rsh(number(x), uint(8*i)).Uint64() % 256)
	}
	return l
}

// inverse returns the odd number that makes 1 of x, modulo 2^64.
func inverse(x uint64) uint64 { return new(big.Int).ModInverse(number(x), modulus()).Uint64() }

// unfinished returns the value that a state with n bytes and the given digest has.
func unfinished(d uint64, n int) uint64 {
	for range 2 {
		d ^= d>>28 ^ d>>56
		d *= inverse(1 + 1<<36)
	}
	return d ^ uint64(n)
}

// without returns the value before the byte v was added.
func without(sum uint64, v byte) uint64 {
	return (sum>>20|sum<<44)*inverse(1+1<<28) ^ uint64(v)
}

func someBytes(r *rand.Rand, n int) []byte {
	l := make([]byte, n)
	r.Read(l)
	return l
}

// numbers are single bits, all bits but one, small and great ones, and arbitrary ones.
func numbers(r *rand.Rand) []uint64 {
	l := []uint64{0, math.MaxUint64, 255, 0x6E6163656C6C6521, 0x0123456789ABCDEF, 0xFEDCBA9876543210, 0x1111111111111111, 0xAAAAAAAAAAAAAAAA}
	for i := range 64 {
		l = append(l, 1<<i, ^uint64(1<<i), 1<<i-1)
	}
	for range 500 {
		l = append(l, r.Uint64(), r.Uint64()>>r.Intn(64), r.Uint64()<<r.Intn(64))
	}
	return l
}

// lengths are numbers of bytes that a state may claim; some are not possible.
func lengths() []int {
	return []int{0, 1, 2, 8, 255, 256, 65535, 1 << 27, 1 << 28, 1 << 31, 1<<35 + 3, 1 << 40, 1 << 62, math.MaxInt, -1, -2, -8, -256, -1 << 28, -1 << 36, math.MinInt + 1, math.MinInt}
}

// samples are sequences of many lengths: of equal bytes, of one set bit each, and arbitrary ones.
func samples(r *rand.Rand) [][]byte {
	l := [][]byte{nil}
	for i := range 256 {
		l = append(l, []byte{byte(i)})
	}
	for n := 1; n < 20; n++ {
		for _, b := range []byte{0, 1, 0x7F, 0x80, 0xFF} {
			l = append(l, bytes.Repeat([]byte{b}, n))
		}
	}
	for i := range 8 * 9 {
		one := make([]byte, 9)
		one[i/8] = 1 << (i % 8)
		l = append(l, one)
	}
	for n := range 100 {
		l = append(l, someBytes(r, n))
	}
	return l
}
