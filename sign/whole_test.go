package sign_test

import (
	"bytes"
	"math"
	"math/rand"
	"slices"
	"sync"
	"testing"

	"nacelle/api"
	"nacelle/sign"
)

// P6.6

// TestAccepted signs with every key of each height, and sends signatures through their encoding.
func TestAccepted(t *testing.T) {
	r := rand.New(rand.NewSource(101))
	for h := range 7 {
		seed := r.Uint64()
		root, _ := sign.Root(seed, h)
		other, _ := sign.Root(seed+1, h)
		for q := range 1 << h {
			d := r.Uint64() >> r.Intn(64)
			s, _ := sign.Sign(seed, h, q, d)
			data, _ := sign.Encode(s)
			back, _ := sign.Decode(data)
			if !sign.Verify(root, h, d, s) || !sign.Verify(root, h, d, back) {
				t.Errorf("%#x %d %d %#x: not accepted", seed, h, q, d)
			}
			if sign.Verify(other, h, d, s) || sign.Verify(root, h, d+1, s) {
				t.Errorf("%#x %d %d %#x: accepted", seed, h, q, d)
			}
		}
	}
}

// TestAcceptedNumbers signs numbers of many kinds.
func TestAcceptedNumbers(t *testing.T) {
	root, _ := sign.Root(3, 1)
	for i, d := range numbers(rand.New(rand.NewSource(102))) {
		if s, _ := sign.Sign(3, 1, i%2, d); !sign.Verify(root, 1, d, s) {
			t.Errorf("%#x: not accepted", d)
		}
	}
}

// TestTwoNumbers: some digit is smaller, and some digit is greater.
func TestTwoNumbers(t *testing.T) {
	l := numbers(rand.New(rand.NewSource(103)))
	for _, d := range l {
		for _, e := range l {
			a, b := sign.Digits(d), sign.Digits(e)
			smaller, greater := false, false
			for i := range a {
				smaller, greater = smaller || b[i] < a[i], greater || b[i] > a[i]
			}
			if different := d != e; smaller != different || greater != different {
				t.Errorf("%#x %#x: %v %v", d, e, smaller, greater)
			}
		}
	}
}

// TestAdvanced advances the chains of a signature wherever the digits of another number are greater, which does not suffice.
func TestAdvanced(t *testing.T) {
	const seed, h, q, d = 8, 2, 1, 0x3333333333333333
	root, _ := sign.Root(seed, h)
	s, _ := sign.Sign(seed, h, q, d)
	for _, e := range numbers(rand.New(rand.NewSource(104))) {
		forged := copied(s)
		for i, n := range sign.Digits(e) {
			for k := sign.Digits(d)[i]; k < n; k++ {
				forged.Chain[i] = sign.Step(i, k, forged.Chain[i])
			}
		}
		if sign.Verify(root, h, e, forged) != (d == e) {
			t.Errorf("%#x", e)
		}
	}
}

// TestAgree: signatures with the same key agree where the digits agree, and their paths agree.
func TestAgree(t *testing.T) {
	l := numbers(rand.New(rand.NewSource(105)))
	for i, d := range l {
		e := l[(i*7+5)%len(l)]
		a, _ := sign.Sign(11, 1, 1, d)
		b, _ := sign.Sign(11, 1, 1, e)
		for k := range a.Chain {
			if (sign.Digits(d)[k] == sign.Digits(e)[k]) != (a.Chain[k] == b.Chain[k]) {
				t.Errorf("%#x %#x: chain %d", d, e, k)
			}
		}
		if !slices.Equal(a.Path, b.Path) {
			t.Errorf("%#x %#x: paths", d, e)
		}
	}
}

// R1, R2, R7

// TestArbitrary gives arbitrary arguments to every function.
func TestArbitrary(t *testing.T) {
	r := rand.New(rand.NewSource(106))
	some := func() int {
		switch r.Intn(3) {
		case 0:
			return r.Intn(12) - 3
		case 1:
			return r.Intn(300) - 150
		}
		return int(r.Uint64())
	}
	for range 3000 {
		h, q, d := some(), some(), r.Uint64()
		sign.Digits(d)
		sign.Step(h, q, d)
		sign.Public(d, q)
		if root, e := sign.Root(d, h); e != api.OK && (root != 0 || e != api.ErrArg || h >= 0 && h <= 6) {
			t.Errorf("%d: %#x %d", h, root, e)
		}
		if s, e := sign.Sign(d, h, q, d); e != api.OK && (!isZero(s) || e != api.ErrArg) || e == api.OK && s.Key != q {
			t.Errorf("%d %d: %v %d", h, q, s, e)
		}
		s := made(r, q, r.Intn(9))
		sign.Verify(d, h, d, s)
		if data, e := sign.Encode(s); e == api.OK && !bytes.Equal(data, theBytes(s)) || e != api.OK && len(data) != 0 {
			t.Errorf("%v: %v %d", s, data, e)
		}
		data := theBytes(s)
		data[r.Intn(4)] = byte(r.Intn(64))
		data = data[:len(data)-r.Intn(20)/19]
		if s, e := sign.Decode(data); e == api.OK && !bytes.Equal(theBytes(s), data) || e != api.OK && (!isZero(s) || e != sign.ErrBytes) {
			t.Errorf("%v: %v %d", data, s, e)
		}
		if s, e := sign.New(d, h); (e == api.OK) != (s != nil) || (e == api.OK) != (s.Left() > 0) {
			t.Errorf("%d: %d", h, e)
		}
	}
}

// R3

// TestArguments checks that nothing is written to arguments or behind them.
func TestArguments(t *testing.T) {
	r := rand.New(rand.NewSource(107))
	for n := range 9 {
		s := made(r, 0, n+30)
		kept := copied(s)
		s.Path = s.Path[:n]
		sign.Verify(1, n, 2, s)
		sign.Encode(s)
		if s.Path = s.Path[:n+30]; !same(s, kept) {
			t.Errorf("%d: %v", n, s)
		}
		all := append(theBytes(s), bytes.Repeat([]byte{77}, 40)...)
		all[1] = byte(n)
		keptBytes := bytes.Clone(all)
		if sign.Decode(all[:2+8*(18+n)]); !bytes.Equal(all, keptBytes) {
			t.Errorf("%d: %v", n, all)
		}
	}
}

// spoil overwrites all memory of a list.
func spoil[T byte | uint64](list []T) {
	list = list[:cap(list)]
	for i := range list {
		list[i] = 99
	}
}

// TestResults checks that one result does not change an argument, another result or a signer.
func TestResults(t *testing.T) {
	const seed, h, q, d = 4, 3, 6, 0x1234
	want := theSignature(seed, h, q, d)
	first, _ := sign.Sign(seed, h, q, d)
	second, _ := sign.Sign(seed, h, q, d)
	one, _ := sign.Encode(second)
	two, _ := sign.Encode(second)
	read, _ := sign.Decode(two)
	again, _ := sign.Decode(two)
	spoil(first.Path)
	spoil(one)
	spoil(read.Path)
	if !same(second, want) || !bytes.Equal(two, theBytes(want)) || !same(again, want) {
		t.Error(second, two, again)
	}
	spoil(two)
	spoil(second.Path)
	if !same(again, want) {
		t.Error(again)
	}
	signer, _ := sign.New(seed, h)
	for key := range 1 << h {
		got, e := signer.Sign(d)
		if !same(got, theSignature(seed, h, key, d)) || e != api.OK {
			t.Error(key, got, e)
		}
		spoil(got.Path)
	}
}

// R4

// TestSigners uses signers by turns: one does not change another one, even with the same seed.
func TestSigners(t *testing.T) {
	a, _ := sign.New(1, 2)
	b, _ := sign.New(1, 2)
	c, _ := sign.New(2, 1)
	use := func(s *sign.Signer, seed uint64, h, q int) {
		if got, e := s.Sign(7); !same(got, theSignature(seed, h, q, 7)) || e != api.OK {
			t.Error(seed, h, q, got, e)
		}
	}
	use(a, 1, 2, 0)
	use(a, 1, 2, 1)
	use(b, 1, 2, 0)
	use(c, 2, 1, 0)
	use(a, 1, 2, 2)
	use(c, 2, 1, 1)
	if a.Left() != 1 || b.Left() != 3 || c.Left() != 0 {
		t.Error(a.Left(), b.Left(), c.Left())
	}
	if _, e := c.Sign(7); e != api.ErrNone {
		t.Error(e)
	}
	use(b, 1, 2, 1)
	use(a, 1, 2, 3)
}

// TestRepeated compares results of many calls at the same time with those of the same calls one after the other.
func TestRepeated(t *testing.T) {
	run := func() []any {
		var out []any
		for i := range 30 {
			h := i%9 - 1
			d := uint64(i) * 0x123456789ABCDEF
			root, e := sign.Root(d, h)
			s, f := sign.Sign(d, h, i%5, d)
			data, g := sign.Encode(s)
			_, x := sign.Decode(data[len(data)/9:])
			signer, y := sign.New(d, h)
			z, o := signer.Sign(d)
			out = append(out, sign.Digits(d), sign.Step(i, -i, d), sign.Public(d, i), root, e, string(theBytes(s)), f, string(data), g, x, y, string(theBytes(z)), o, signer.Left(), signer.Root(), sign.Verify(root, h, d, s))
		}
		return out
	}
	want := run()
	var all sync.WaitGroup
	for range 4 {
		all.Go(func() {
			if !slices.Equal(run(), want) {
				t.Error("results differ")
			}
		})
	}
	all.Wait()
}

// R5

// TestEmpty: paths and data without elements are alike, whether or not they are nil.
func TestEmpty(t *testing.T) {
	s := made(rand.New(rand.NewSource(108)), 0, 0)
	root := theResult(5, s)
	for _, path := range [][]uint64{nil, {}, make([]uint64, 0, 9)} {
		s.Path = path
		if !sign.Verify(root, 0, 5, s) || sign.Verify(root, 1, 5, s) {
			t.Error("path", path == nil)
		}
		if data, e := sign.Encode(s); !bytes.Equal(data, theBytes(s)) || e != api.OK {
			t.Error(data, e)
		}
	}
	for _, data := range [][]byte{nil, {}, make([]byte, 0, 200)} {
		if got, e := sign.Decode(data); !isZero(got) || e != sign.ErrBytes {
			t.Error(got, e)
		}
	}
	if got, e := sign.Sign(1, 0, 0, math.MaxUint64); len(got.Path) != 0 || e != api.OK {
		t.Error(got, e)
	}
}
