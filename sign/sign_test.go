package sign_test

import (
	"bytes"
	"math"
	"math/rand"
	"slices"
	"testing"

	"nacelle/api"
	"nacelle/digest"
	"nacelle/sign"
)

// P6.1

func TestDigits(t *testing.T) {
	for _, c := range []struct {
		d    uint64
		want [18]int
	}{
		{0, [18]int{17: 15}},
		{1, [18]int{0: 1, 16: 15, 17: 14}},
		{0xF, [18]int{0: 15, 16: 1, 17: 14}},
		{0x10, [18]int{1: 1, 16: 15, 17: 14}},
		{0xF000000000000000, [18]int{15: 15, 16: 1, 17: 14}},
		{0x8000000000000001, [18]int{0: 1, 15: 8, 16: 7, 17: 14}},
		{0xFEDCBA9876543210, [18]int{0, 1, 2, 3, 4, 5, 6, 7, 8, 9, 10, 11, 12, 13, 14, 15, 8, 7}},
		{0x0123456789ABCDEF, [18]int{15, 14, 13, 12, 11, 10, 9, 8, 7, 6, 5, 4, 3, 2, 1, 0, 8, 7}},
		{0xFFFFFFFFFFFFFFFE, [18]int{14, 15, 15, 15, 15, 15, 15, 15, 15, 15, 15, 15, 15, 15, 15, 15, 1, 0}},
		{0xFFFFFFFFFFFFFFFF, [18]int{15, 15, 15, 15, 15, 15, 15, 15, 15, 15, 15, 15, 15, 15, 15, 15, 0, 0}},
	} {
		if got := sign.Digits(c.d); got != c.want {
			t.Errorf("%#x: %v, but not %v", c.d, got, c.want)
		}
	}
	for _, d := range numbers(rand.New(rand.NewSource(81))) {
		if got, want := sign.Digits(d), theDigits(d); got != want {
			t.Errorf("%#x: %v, but not %v", d, got, want)
		}
	}
}

// TestChecksums has every checksum: a number with digits of the given sum.
func TestChecksums(t *testing.T) {
	for sum := range 241 {
		var d uint64
		for rest := sum; rest > 0; rest -= 15 {
			d = d<<4 | uint64(min(rest, 15))
		}
		got := sign.Digits(d)
		if got[16]+16*got[17] != 240-sum || got[16] < 0 || got[16] > 15 {
			t.Errorf("%#x: %v", d, got)
		}
	}
}

func TestStep(t *testing.T) {
	for _, c := range []struct {
		i, k    int
		x, want uint64
	}{
		{0, 0, 0, 0x5BCD3C78B943C5F6},
		{3, 4, 5, 0xACA9F6C545A8828D},
		{17, 14, 0x0102030405060708, 0x4B75A9DC46C3E262},
		{255, 255, math.MaxUint64, 0x7BE5D879F220298F},
		{256, 257, 0, 0xA9425C77FE74D9F0},
		{0, 1, 0, 0xA9425C77FE74D9F0},
		{-1, -256, 7, 0xFD1AF63B55C8AAE1},
		{255, 0, 7, 0xFD1AF63B55C8AAE1},
		{math.MaxInt, math.MinInt, 1 << 63, 0xDAB80955C7675F5A},
		{255, 0, 1 << 63, 0xDAB80955C7675F5A},
	} {
		if got := sign.Step(c.i, c.k, c.x); got != c.want {
			t.Errorf("%d %d %#x: %#x, but not %#x", c.i, c.k, c.x, got, c.want)
		}
	}
	if got, want := sign.Step(3, 4, 0x0102030405060708), digest.Of([]byte{3, 4, 8, 7, 6, 5, 4, 3, 2, 1}); got != want {
		t.Errorf("%#x, but not %#x", got, want)
	}
}

func TestStepAny(t *testing.T) {
	r := rand.New(rand.NewSource(82))
	l := []int{0, 1, 15, 17, 18, 127, 128, 255, 256, 257, 511, 512, 65535, 65536, 1 << 31, 1 << 32, math.MaxInt, -1, -2, -128, -255, -256, -257, -65536, math.MinInt, math.MinInt + 1}
	for _, i := range l {
		for _, k := range l {
			x := r.Uint64()
			if got, want := sign.Step(i, k, x), theStep(i, k, x); got != want {
				t.Errorf("%d %d %#x: %#x, but not %#x", i, k, x, got, want)
			}
		}
	}
	for _, x := range numbers(r) {
		i, k := int(r.Uint64()), r.Intn(1000)-500
		if got, want := sign.Step(i, k, x), theStep(i, k, x); got != want {
			t.Errorf("%d %d %#x: %#x, but not %#x", i, k, x, got, want)
		}
	}
}

func TestPublic(t *testing.T) {
	for _, c := range []struct {
		seed uint64
		q    int
		want uint64
	}{
		{0, 0, 0xCAB74BE95755FF46},
		{42, 0, 0xAD02AF32E0F52A33},
		{42, 3, 0xF6415FD075D9279F},
		{0x0102030405060708, 63, 0xC8686079D963626C},
		{math.MaxUint64, 255, 0xF6794D9EC02CB271},
		{math.MaxUint64, 256, 0x900A5C293A879054},
		{5, 258, 0x8D2A9A9097E1DE43},
		{5, -1, 0x7EF7F1DA104C261D},
		{5, 65535, 0x7EF7F1DA104C261D},
		{5, -256, 0xE4F83ED335658542},
		{5, 0, 0x0507C2C9E10F6B74},
		{5, 65536, 0x0507C2C9E10F6B74},
		{5, math.MaxInt, 0x7EF7F1DA104C261D},
		{5, math.MinInt, 0x0507C2C9E10F6B74},
	} {
		if got := sign.Public(c.seed, c.q); got != c.want {
			t.Errorf("%#x %d: %#x, but not %#x", c.seed, c.q, got, c.want)
		}
	}
}

func TestPublicAny(t *testing.T) {
	r := rand.New(rand.NewSource(83))
	check := func(seed uint64, q int) {
		if got, want := sign.Public(seed, q), thePublic(seed, q); got != want {
			t.Errorf("%#x %d: %#x, but not %#x", seed, q, got, want)
		}
	}
	for q := range 70 {
		check(uint64(q), q)
		check(r.Uint64(), q)
	}
	for _, q := range wrongKeys(6) {
		check(0, q)
		check(r.Uint64(), q)
	}
	for i := range 64 {
		check(1<<i, 0)
		check(9, 1<<i)
		check(9, -1<<i)
		check(r.Uint64(), int(r.Uint64()))
	}
}

// P6.2

func TestRoot(t *testing.T) {
	for _, c := range []struct {
		seed uint64
		h    int
		want uint64
	}{
		{0, 0, 0xCAB74BE95755FF46},
		{42, 0, 0xAD02AF32E0F52A33},
		{42, 1, 0xD2619574A0A59016},
		{42, 2, 0xB59573C8090A92EB},
		{7, 3, 0xAE66CB8218A618E8},
		{math.MaxUint64, 4, 0xE3FCDD79B70C67EC},
		{1 << 63, 5, 0x2231A6366CA14E21},
		{0x0102030405060708, 6, 0x3AB818E0E126B852},
	} {
		if got, e := sign.Root(c.seed, c.h); got != c.want || e != api.OK {
			t.Errorf("%#x %d: %#x %d, but not %#x", c.seed, c.h, got, e, c.want)
		}
	}
	r := rand.New(rand.NewSource(84))
	for h := range 7 {
		for _, seed := range []uint64{1, r.Uint64(), r.Uint64()} {
			if got, e := sign.Root(seed, h); got != theNode(seed, h, 0) || e != api.OK {
				t.Errorf("%#x %d: %#x %d", seed, h, got, e)
			}
		}
	}
	for _, h := range wrongHeights() {
		if got, e := sign.Root(42, h); got != 0 || e != api.ErrArg {
			t.Errorf("%d: %#x %d", h, got, e)
		}
	}
}

func TestSign(t *testing.T) {
	want := api.Signature{
		Key: 2,
		Chain: [18]uint64{
			0x29C8A949E25D1A59, 0xB58CCE55871EF07F, 0xD72B8DB22EBAAC1D, 0x97788D7F3499E0D2, 0x07B3E558EF948D71, 0x50EE2FBA8D6BB98A,
			0x0542CAEABA5F4E65, 0x37C4D892A37D8991, 0xAF454E20C4868BED, 0x1E85777B6F904E9F, 0xC544C221936788EA, 0x468352C63D8F0E3E,
			0x9C8338B86D57E6A2, 0xA82DFA42F67641D4, 0xBA8E9CD03294DDB7, 0x0E7DD80BBE0E867E, 0x7D35CC037946D574, 0x61812216ED404F38,
		},
		Path: []uint64{0xF6415FD075D9279F, 0xD2619574A0A59016},
	}
	if got, e := sign.Sign(42, 2, 2, 0xFEDCBA9876543210); !same(got, want) || e != api.OK {
		t.Errorf("%#v %d", got, e)
	}
}

// TestSignKeys has every key of a tree of each height.
func TestSignKeys(t *testing.T) {
	r := rand.New(rand.NewSource(85))
	for h := range 7 {
		seed := r.Uint64()
		for q := range 1 << h {
			d := r.Uint64()
			if got, e := sign.Sign(seed, h, q, d); !same(got, theSignature(seed, h, q, d)) || e != api.OK {
				t.Errorf("%#x %d %d %#x: %v %d", seed, h, q, d, got, e)
			}
		}
	}
}

// TestSignNumbers signs numbers of many kinds.
func TestSignNumbers(t *testing.T) {
	r := rand.New(rand.NewSource(86))
	for i, d := range numbers(r) {
		h := i % 3
		q := r.Intn(1 << h)
		if got, e := sign.Sign(uint64(i), h, q, d); !same(got, theSignature(uint64(i), h, q, d)) || e != api.OK {
			t.Errorf("%d %d %d %#x: %v %d", i, h, q, d, got, e)
		}
	}
}

func TestSignWrong(t *testing.T) {
	check := func(h, q int) {
		if got, e := sign.Sign(42, h, q, 1234); !isZero(got) || e != api.ErrArg {
			t.Errorf("%d %d: %v %d", h, q, got, e)
		}
	}
	for _, h := range wrongHeights() {
		for _, q := range append(wrongKeys(6), 0, 1, 5, 63) {
			check(h, q)
		}
	}
	for h := range 7 {
		for _, q := range wrongKeys(h) {
			check(h, q)
		}
	}
}

// P6.3

// TestVerifyMade has signatures of arbitrary numbers, which have a root, too.
func TestVerifyMade(t *testing.T) {
	r := rand.New(rand.NewSource(87))
	for h := range 7 {
		for q := range 1 << h {
			s, d := made(r, q, h), r.Uint64()
			root := theResult(d, s)
			if !sign.Verify(root, h, d, s) {
				t.Errorf("%d %d %#x: not accepted", h, q, d)
			}
			for i := range 64 {
				if sign.Verify(root^1<<i, h, d, s) {
					t.Errorf("%d %d %#x: accepted with bit %d of the root", h, q, d, i)
				}
			}
			if sign.Verify(0, h, d, s) || sign.Verify(root+1, h, d, s) || sign.Verify(root-1, h, d, s) {
				t.Errorf("%d %d %#x: accepted with another root", h, q, d)
			}
		}
	}
	for _, d := range numbers(r) {
		s := made(r, r.Intn(8), 3)
		if !sign.Verify(theResult(d, s), 3, d, s) {
			t.Errorf("%#x: not accepted", d)
		}
	}
}

// TestVerifyWrong has signatures whose result is the root, but whose Key or Path does not fit the height.
func TestVerifyWrong(t *testing.T) {
	r := rand.New(rand.NewSource(88))
	check := func(h int, s api.Signature) {
		d := r.Uint64()
		if sign.Verify(theResult(d, s), h, d, s) {
			t.Errorf("%d %d %d: accepted", h, s.Key, len(s.Path))
		}
	}
	for h := range 7 {
		for _, q := range wrongKeys(h) {
			check(h, made(r, q, h))
		}
		for n := range 10 {
			if n != h {
				check(h, made(r, 0, n))
				check(h, made(r, 1<<h-1, n))
				check(h, made(r, 1<<n-1, n))
			}
		}
	}
	for _, h := range wrongHeights() {
		check(h, made(r, 0, 0))
		check(h, made(r, 0, 7))
		check(h, made(r, 5, 8))
		check(h, made(r, -1, 6))
		if h >= 0 && h < 300 {
			check(h, made(r, 0, h))
			check(h, made(r, 1, h))
		}
	}
	check(6, made(r, 3, 100000))
	check(0, made(r, 0, 1<<20))
}

// TestVerifyChanged changes each bit of what was signed, of the chains and of the path, and Key.
func TestVerifyChanged(t *testing.T) {
	const seed, h, q, d = 99, 3, 5, 0x7083F00FA1C2B3D4
	root, _ := sign.Root(seed, h)
	s, _ := sign.Sign(seed, h, q, d)
	if !sign.Verify(root, h, d, s) {
		t.Fatal("not accepted")
	}
	for i := range 64 {
		if sign.Verify(root, h, d^1<<i, s) {
			t.Error("accepted with bit of the digest", i)
		}
		for j := range s.Chain {
			other := copied(s)
			other.Chain[j] ^= 1 << i
			if sign.Verify(root, h, d, other) {
				t.Error("accepted with bit of a chain", i, j)
			}
		}
		for j := range s.Path {
			other := copied(s)
			other.Path[j] ^= 1 << i
			if sign.Verify(root, h, d, other) {
				t.Error("accepted with bit of the path", i, j)
			}
		}
		other := copied(s)
		other.Key ^= 1 << i
		if sign.Verify(root, h, d, other) {
			t.Error("accepted with bit of Key", i)
		}
	}
	for _, other := range []api.Signature{
		{},
		{Key: q, Path: s.Path},
		{Key: q, Chain: s.Chain},
		{Key: q, Chain: s.Chain, Path: s.Path[:2]},
		{Key: q, Chain: s.Chain, Path: s.Path[1:]},
		{Key: q, Chain: s.Chain, Path: append(slices.Clone(s.Path), 0)},
		{Key: q, Chain: s.Chain, Path: []uint64{s.Path[1], s.Path[0], s.Path[2]}},
		{Key: q, Chain: s.Chain, Path: []uint64{s.Path[2], s.Path[1], s.Path[0]}},
	} {
		if sign.Verify(root, h, d, other) {
			t.Error("accepted", other)
		}
	}
}

// P6.4

func TestEncode(t *testing.T) {
	s := api.Signature{Key: 2, Path: []uint64{0x1112131415161718, math.MaxUint64}}
	want := []byte{2, 2}
	for i := range s.Chain {
		s.Chain[i] = uint64(i) + 0x0A00<<48
		want = append(want, byte(i), 0, 0, 0, 0, 0, 0, 0x0A)
	}
	want = append(want, 0x18, 0x17, 0x16, 0x15, 0x14, 0x13, 0x12, 0x11, 255, 255, 255, 255, 255, 255, 255, 255)
	got, e := sign.Encode(s)
	if !bytes.Equal(got, want) || len(got) != 162 || e != api.OK {
		t.Errorf("%v %d", got, e)
	}
	if back, e := sign.Decode(want); !same(back, s) || e != api.OK {
		t.Errorf("%v %d", back, e)
	}
	if got, e := sign.Encode(api.Signature{}); !bytes.Equal(got, make([]byte, 146)) || e != api.OK {
		t.Errorf("%v %d", got, e)
	}
}

// TestEncodeKeys has every key of each height.
func TestEncodeKeys(t *testing.T) {
	r := rand.New(rand.NewSource(89))
	for h := range 7 {
		for q := range 1 << h {
			s := made(r, q, h)
			data, e := sign.Encode(s)
			if !bytes.Equal(data, theBytes(s)) || e != api.OK {
				t.Errorf("%v: %v %d", s, data, e)
			}
			if back, e := sign.Decode(theBytes(s)); !same(back, s) || e != api.OK {
				t.Errorf("%v: %v %d", s, back, e)
			}
		}
	}
}

func TestEncodeWrong(t *testing.T) {
	r := rand.New(rand.NewSource(90))
	check := func(q, n int) {
		if data, e := sign.Encode(made(r, q, n)); len(data) != 0 || e != api.ErrArg {
			t.Errorf("%d %d: %v %d", q, n, data, e)
		}
	}
	for h := range 7 {
		for _, q := range wrongKeys(h) {
			check(q, h)
		}
	}
	for _, n := range []int{7, 8, 9, 18, 64, 255, 256, 258, 65536} {
		for _, q := range []int{-1, 0, 1, 63, 64, 127, 128, 255, math.MinInt, math.MaxInt} {
			check(q, n)
		}
	}
}

// TestDecodeHeads has all pairs of first bytes, with as many numbers as the second one says, and with one byte more or less.
func TestDecodeHeads(t *testing.T) {
	r := rand.New(rand.NewSource(91))
	data := make([]byte, 2+8*(18+256))
	r.Read(data)
	for q := range 256 {
		for h := range 256 {
			data[0], data[1] = byte(q), byte(h)
			n := 2 + 8*(18+h)
			got, e := sign.Decode(data[:n])
			if h > 6 || q >= 1<<h {
				if !isZero(got) || e != sign.ErrBytes {
					t.Errorf("%d %d: %v %d", q, h, got, e)
				}
			} else if e != api.OK || got.Key != q || len(got.Path) != h || !bytes.Equal(theBytes(got), data[:n]) {
				t.Errorf("%d %d: %v %d", q, h, got, e)
			}
			for _, n := range []int{n - 1, n + 1} {
				if got, e := sign.Decode(data[:n]); !isZero(got) || e != sign.ErrBytes {
					t.Errorf("%d %d %d bytes: %v %d", q, h, n, got, e)
				}
			}
		}
	}
}

// TestDecodeLengths has all lengths up to 3000 with valid first bytes, and some that agree with the right one modulo a power of 2.
func TestDecodeLengths(t *testing.T) {
	data := make([]byte, 3000)
	for h := range 7 {
		data[0], data[1] = 1<<h-1, byte(h)
		for n := range data {
			got, e := sign.Decode(data[:n])
			if n == 2+8*18+8*h {
				if got.Key != 1<<h-1 || len(got.Path) != h || e != api.OK {
					t.Errorf("%d %d: %v %d", h, n, got, e)
				}
			} else if !isZero(got) || e != sign.ErrBytes {
				t.Errorf("%d %d: %v %d", h, n, got, e)
			}
		}
	}
	for _, n := range []int{1 << 12, 1 << 16, 1 << 17, 1 << 20} {
		for _, n := range []int{n, n + 2, n + 146} {
			if got, e := sign.Decode(make([]byte, n)); !isZero(got) || e != sign.ErrBytes {
				t.Errorf("%d: %v %d", n, got, e)
			}
		}
	}
}

// P6.5

// TestSigner uses up the keys of each height, and more.
func TestSigner(t *testing.T) {
	r := rand.New(rand.NewSource(92))
	for h := range 7 {
		seed := r.Uint64()
		root, _ := sign.Root(seed, h)
		s, e := sign.New(seed, h)
		if s == nil || e != api.OK {
			t.Fatal(h, e)
		}
		for q := range 1 << h {
			if s.Left() != 1<<h-q || s.Left() != 1<<h-q || s.Root() != root {
				t.Errorf("%d %d: %d left, root %#x", h, q, s.Left(), s.Root())
			}
			d := r.Uint64()
			got, e := s.Sign(d)
			want, _ := sign.Sign(seed, h, q, d)
			if !same(got, want) || e != api.OK {
				t.Errorf("%d %d: %v %d", h, q, got, e)
			}
		}
		for range 3 {
			if got, e := s.Sign(r.Uint64()); !isZero(got) || e != api.ErrNone {
				t.Errorf("%d: %v %d", h, got, e)
			}
			if s.Left() != 0 || s.Root() != root {
				t.Errorf("%d: %d left, root %#x", h, s.Left(), s.Root())
			}
		}
	}
}

func TestNewWrong(t *testing.T) {
	for _, h := range wrongHeights() {
		if s, e := sign.New(42, h); s != nil || e != api.ErrArg {
			t.Errorf("%d: %v %d", h, s, e)
		}
	}
}

// TestNoSigner has signers that New did not return.
func TestNoSigner(t *testing.T) {
	for _, s := range []*sign.Signer{nil, {}, new(sign.Signer)} {
		for range 2 {
			if got, e := s.Sign(5); !isZero(got) || e != api.ErrNil {
				t.Error(got, e)
			}
			if s.Left() != 0 || s.Root() != 0 {
				t.Error(s.Left(), s.Root())
			}
		}
	}
}
