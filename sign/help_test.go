package sign_test

import (
	"encoding/binary"
	"fmt"
	"math"
	"math/big"
	"math/rand"
	"slices"
	"strconv"

	"nacelle/api"
	"nacelle/digest"
	"nacelle/sign"
)

// The signatures of the chapter.
var (
	_ func(uint64) [18]int                                             = sign.Digits
	_ func(i, k int, x uint64) uint64                                  = sign.Step
	_ func(seed uint64, q int) uint64                                  = sign.Public
	_ func(seed uint64, h int) (uint64, api.Errno)                     = sign.Root
	_ func(seed uint64, h, q int, d uint64) (api.Signature, api.Errno) = sign.Sign
	_ func(root uint64, h int, d uint64, s api.Signature) bool         = sign.Verify
	_ func(api.Signature) ([]byte, api.Errno)                          = sign.Encode
	_ func([]byte) (api.Signature, api.Errno)                          = sign.Decode
	_ func(seed uint64, h int) (*sign.Signer, api.Errno)               = sign.New
	_ func(s *sign.Signer, d uint64) (api.Signature, api.Errno)        = (*sign.Signer).Sign
	_ func(s *sign.Signer) int                                         = (*sign.Signer).Left
	_ func(s *sign.Signer) uint64                                      = (*sign.Signer).Root
	_ [sign.MaxHeight - 6]struct{}                                     = [0]struct{}{}
	_ [sign.ErrBytes - api.Errno(60)]struct{}                          = [0]struct{}{}
	_ struct {
		Key   int
		Chain [18]uint64
		Path  []uint64
	} = api.Signature{}
)

// modulo returns x modulo 256, from 0 to 255 for any x.
func modulo(x *big.Int) byte {
	return byte(new(big.Int).Mod(x, big.NewInt(256)).Uint64())
}

func number(x int) *big.Int { return big.NewInt(int64(x)) }

// theDigits follows the chapter: digits are read off the hexadecimal notation, and the two of the checksum, too.
func theDigits(d uint64) [18]int {
	text := fmt.Sprintf("%016x", d)
	checksum := 0
	for _, c := range text {
		v, _ := strconv.ParseInt(string(c), 16, 64)
		checksum += 15 - int(v)
	}
	text = fmt.Sprintf("%02x", checksum) + text
	var all [18]int
	for i := range all {
		v, _ := strconv.ParseInt(text[17-i:18-i], 16, 64)
		all[i] = int(v)
	}
	return all
}

// theStep follows the chapter's definition of a step.
func theStep(i, k int, x uint64) uint64 {
	return digest.Of(binary.LittleEndian.AppendUint64([]byte{modulo(number(i)), modulo(number(k))}, x))
}

// theSecret follows the chapter's definition of a secret.
func theSecret(seed uint64, q, i int) uint64 {
	high := new(big.Int).Div(number(q), big.NewInt(256)) // rounded down, since 256 is positive
	data := binary.LittleEndian.AppendUint64(nil, seed)
	return digest.Of(append(data, modulo(number(q)), modulo(high), byte(i)))
}

// theValue is that of a key at position n of chain i.
func theValue(seed uint64, q, i, n int) uint64 {
	if n == 0 {
		return theSecret(seed, q, i)
	}
	return theStep(i, n-1, theValue(seed, q, i, n-1))
}

// thePublic is the public value of a key.
func thePublic(seed uint64, q int) uint64 {
	var data []byte
	for i := range 18 {
		data = binary.LittleEndian.AppendUint64(data, theValue(seed, q, i, 15))
	}
	return digest.Of(data)
}

// theNode is the one with the given index among those that have the given height above the leaves.
func theNode(seed uint64, height, index int) uint64 {
	if height == 0 {
		return thePublic(seed, index)
	}
	return digest.Pair(theNode(seed, height-1, 2*index), theNode(seed, height-1, 2*index+1))
}

// theSignature follows the chapter's definition of a signature.
func theSignature(seed uint64, h, q int, d uint64) api.Signature {
	s := api.Signature{Key: q}
	for i, n := range theDigits(d) {
		s.Chain[i] = theValue(seed, q, i, n)
	}
	for height, index := 0, q; height < h; height, index = height+1, index/2 {
		s.Path = append(s.Path, theNode(seed, height, index+1-2*(index%2)))
	}
	return s
}

// theResult is what Verify computes from a signature, whether or not its Key and Path are valid.
func theResult(d uint64, s api.Signature) uint64 {
	var data []byte
	for i, n := range theDigits(d) {
		x := s.Chain[i]
		for k := n; k < 15; k++ {
			x = theStep(i, k, x)
		}
		data = binary.LittleEndian.AppendUint64(data, x)
	}
	result := digest.Of(data)
	for j, node := range s.Path {
		if number(s.Key).Bit(j) == 0 {
			result = digest.Pair(result, node)
		} else {
			result = digest.Pair(node, result)
		}
	}
	return result
}

// theBytes are those of the encoding of a signature that has one.
func theBytes(s api.Signature) []byte {
	data := []byte{byte(s.Key), byte(len(s.Path))}
	for _, x := range s.Chain {
		data = binary.LittleEndian.AppendUint64(data, x)
	}
	for _, x := range s.Path {
		data = binary.LittleEndian.AppendUint64(data, x)
	}
	return data
}

// same reports whether two signatures are equal; nil and empty paths are.
func same(a, b api.Signature) bool {
	return a.Key == b.Key && a.Chain == b.Chain && slices.Equal(a.Path, b.Path)
}

// isZero reports whether s is the zero signature.
func isZero(s api.Signature) bool { return same(s, api.Signature{}) }

// copied shares no memory with s.
func copied(s api.Signature) api.Signature {
	s.Path = slices.Clone(s.Path)
	return s
}

// made has the Key q, a path of n numbers, and arbitrary numbers.
func made(r *rand.Rand, q, n int) api.Signature {
	s := api.Signature{Key: q}
	for i := range s.Chain {
		s.Chain[i] = r.Uint64()
	}
	for range n {
		s.Path = append(s.Path, r.Uint64())
	}
	return s
}

// numbers are single bits, all bits but one, single digits, small and great numbers, and arbitrary ones.
func numbers(r *rand.Rand) []uint64 {
	l := []uint64{0, math.MaxUint64, 255, 0x0123456789ABCDEF, 0xFEDCBA9876543210, 0x1111111111111111, 0x8888888888888888, 0xF0F0F0F0F0F0F0F0}
	for i := range 64 {
		l = append(l, 1<<i, ^uint64(1<<i), 1<<i-1)
	}
	for place := range 16 {
		for v := range uint64(16) {
			l = append(l, v<<(4*place), 0x5555555555555555&^(15<<(4*place))|v<<(4*place))
		}
	}
	for range 300 {
		l = append(l, r.Uint64(), r.Uint64()>>r.Intn(64), r.Uint64()<<r.Intn(64))
	}
	return l
}

// wrongHeights are not from 0 to 6.
func wrongHeights() []int {
	return []int{-1, -2, -6, -64, 7, 8, 31, 32, 62, 63, 64, 65, 128, 255, 256, 1 << 32, 1<<32 + 2, 1 << 40, math.MinInt, math.MinInt + 2, math.MaxInt}
}

// wrongKeys are not from 0 to 2^h - 1.
func wrongKeys(h int) []int {
	return []int{-1, -2, -64, 1 << h, 1<<h + 1, 2 << h, 64, 65, 127, 128, 255, 256, 257, 1 << 16, 1 << 32, 1 << 62, math.MinInt, math.MinInt + 1, math.MaxInt, math.MaxInt - 1}
}
