package crc_test

import (
	"bytes"
	"math"
	"math/rand"
	"slices"
	"sync"
	"testing"

	"nacelle/api"
	"nacelle/crc"
)

// P4.4

func TestAccepted(t *testing.T) {
	r := rand.New(rand.NewSource(48))
	for _, data := range append(samples(r), someBytes(r, 100000)) {
		if got, e := crc.Check(crc.Append(data)); !bytes.Equal(got, data) || e != api.OK {
			t.Errorf("%v: %v %d", data, got, e)
		}
	}
}

// burst returns data after a burst: from the bit at the given place on, the bits of pattern are combined with it.
func burst(data []byte, place int, pattern uint64) []byte {
	hit := bytes.Clone(data)
	for i := range 64 {
		if pattern>>i&1 == 1 {
			hit[(place+i)/8] ^= 1 << ((place + i) % 8)
		}
	}
	return hit
}

func rejected(t *testing.T, data []byte) {
	t.Helper()
	if got, e := crc.Check(data); len(got) != 0 || e != crc.ErrSum {
		t.Errorf("%v: %v %d", data, got, e)
	}
}

// TestShortBursts has all bursts of up to 9 bits, at every place.
func TestShortBursts(t *testing.T) {
	r := rand.New(rand.NewSource(49))
	for n := range 7 {
		whole := crc.Append(someBytes(r, n))
		for length := 1; length <= 9; length++ {
			for place := range 8*len(whole) - length + 1 {
				for inner := range 1 << max(length-2, 0) {
					ends := uint64(1 | 1<<(length-1))
					rejected(t, burst(whole, place, ends|uint64(inner)<<1))
				}
			}
		}
	}
}

// TestBursts has some bursts of each length up to 32, at every place.
func TestBursts(t *testing.T) {
	r := rand.New(rand.NewSource(50))
	for _, n := range []int{0, 1, 5, 64} {
		whole := crc.Append(someBytes(r, n))
		for length := 1; length <= 32; length++ {
			for place := range 8*len(whole) - length + 1 {
				ends := uint64(1 | 1<<(length-1))
				rejected(t, burst(whole, place, ends))
				rejected(t, burst(whole, place, 1<<length-1))
				rejected(t, burst(whole, place, ends|r.Uint64()&(1<<length-1)))
			}
		}
	}
}

// TestAllBursts shows that there is no burst of at most 32 bits that Check accepts. A burst changes the sum that the trailer should have by the combination of the changes by its bits, so no change is a combination of others within 32 places.
func TestAllBursts(t *testing.T) {
	const size = 12
	var changes []uint32
	for i := range 8 * (size + 4) {
		one := burst(make([]byte, size+4), i, 1)
		trailer := uint32(one[size]) | uint32(one[size+1])<<8 | uint32(one[size+2])<<16 | uint32(one[size+3])<<24
		changes = append(changes, crc.Sum(one[:size])^crc.Sum(make([]byte, size))^trailer)
	}
	for place := range len(changes) - 31 {
		if independent(changes[place:place+32]) != 32 {
			t.Error(place, changes[place:place+32])
		}
	}
}

// independent returns how many numbers are not combinations of the ones before them.
func independent(l []uint32) int {
	var kept []uint32
	for _, x := range l {
		for _, k := range kept {
			x = min(x, x^k)
		}
		if x != 0 {
			kept = append(kept, x)
		}
	}
	return len(kept)
}

// TestPolynomial has a burst of 33 bits that changes the trailer in the same way as the rest: the coefficients of the polynomial, from x^32 on.
func TestPolynomial(t *testing.T) {
	pattern := uint64(0)
	for _, power := range []int{32, 26, 23, 22, 16, 12, 11, 10, 8, 7, 5, 4, 2, 1, 0} {
		pattern |= 1 << (32 - power)
	}
	r := rand.New(rand.NewSource(51))
	for n := 1; n < 20; n++ {
		whole := crc.Append(someBytes(r, n))
		for place := range 8*len(whole) - 32 {
			hit := burst(whole, place, pattern)
			if got, e := crc.Check(hit); !bytes.Equal(got, hit[:n]) || e != api.OK {
				t.Errorf("%v %d: %v %d", whole, place, got, e)
			}
		}
	}
}

func TestThreeSums(t *testing.T) {
	r := rand.New(rand.NewSource(52))
	for n := range 200 {
		x, y, z, all := someBytes(r, n), someBytes(r, n), someBytes(r, n), make([]byte, n)
		for i := range all {
			all[i] = x[i] ^ y[i] ^ z[i]
		}
		if got, want := crc.Sum(all), crc.Sum(x)^crc.Sum(y)^crc.Sum(z); got != want {
			t.Errorf("%v %v %v: %#x, but not %#x", x, y, z, got, want)
		}
	}
}

// R1, R2, R7

// TestArbitrary gives arbitrary arguments to every function: none panics, and Check only accepts what Append returns.
func TestArbitrary(t *testing.T) {
	r := rand.New(rand.NewSource(53))
	for range 20000 {
		data := someBytes(r, r.Intn(9))
		if r.Intn(2) == 0 {
			data = withTrailer(data, crc.Update(r.Uint32()&-uint32(r.Intn(2)), data))
		}
		rest := max(len(data)-4, 0)
		got, e := crc.Check(data)
		if bytes.Equal(crc.Append(data[:rest]), data) {
			if !bytes.Equal(got, data[:rest]) || e != api.OK {
				t.Error(data, got, e)
			}
		} else if len(got) != 0 || e != crc.ErrSum {
			t.Error(data, got, e)
		}
		crc.Combine(r.Uint32(), r.Uint32(), int(r.Uint64()))
		crc.Combine(r.Uint32(), r.Uint32(), []int{math.MinInt, -1, 0, 1 << 20, math.MaxInt}[r.Intn(5)])
	}
}

// R3

// TestArguments checks that nothing is written to arguments or behind them, and that results are memory of their own.
func TestArguments(t *testing.T) {
	for _, text := range []string{"", "\x00", "123456789"} {
		all := append(withTrailer([]byte(text), sum([]byte(text))), bytes.Repeat([]byte{77}, 40)...)
		data, whole := all[:len(text)], all[:len(text)+4]
		kept := bytes.Clone(all)
		for range 2 {
			crc.Sum(data)
			crc.Update(5, data)
			more := crc.Append(data)
			if !bytes.Equal(more, kept[:len(whole)]) {
				t.Error(text, more)
			}
			overwrite(more)
			rest, e := crc.Check(whole)
			if string(rest) != text || e != api.OK {
				t.Error(text, rest, e)
			}
			overwrite(rest)
			if _, e := crc.Check(all); e != crc.ErrSum {
				t.Error(text, e)
			}
			if !bytes.Equal(all, kept) {
				t.Fatal(text, all)
			}
		}
	}
}

// overwrite fills a result and its spare capacity, to show what else has the same memory.
func overwrite(l []byte) {
	l = l[:cap(l)]
	for i := range l {
		l[i] = 99
	}
}

// TestResults checks that one result does not change another one.
func TestResults(t *testing.T) {
	data := []byte("123456789")
	first, second := crc.Append(data), crc.Append(data)
	overwrite(first)
	rest, _ := crc.Check(second)
	rest2, _ := crc.Check(second)
	overwrite(rest)
	if string(rest2) != "123456789" || string(second) != "123456789\x26\x39\xF4\xCB" {
		t.Error(rest2, second)
	}
}

// R4

// TestRepeated compares results of many calls at the same time with those of the same calls one after the other.
func TestRepeated(t *testing.T) {
	data := someBytes(rand.New(rand.NewSource(54)), 100)
	run := func() []any {
		var out []any
		for i := range 100 {
			whole := crc.Append(data[:i])
			rest, e := crc.Check(whole)
			_, f := crc.Check(data[:i])
			out = append(out, crc.Sum(data[:i]), crc.Update(uint32(i), data), string(whole), string(rest), e, f, crc.Combine(7, uint32(i), 1000*i))
		}
		return out
	}
	want := run()
	var all sync.WaitGroup
	for range 4 {
		all.Go(func() {
			if !slices.Equal(run(), want) {
				t.Error("results differ")
			}
		})
	}
	all.Wait()
}

// R5

// TestEmpty: sequences without bytes are alike, whether or not they are nil.
func TestEmpty(t *testing.T) {
	for _, l := range [][]byte{nil, {}, make([]byte, 0, 9)} {
		if s, u := crc.Sum(l), crc.Update(9, l); s != 0 || u != 9 {
			t.Error(s, u)
		}
		if got := crc.Append(l); !bytes.Equal(got, make([]byte, 4)) {
			t.Error(got)
		}
		if got, e := crc.Check(l); len(got) != 0 || e != crc.ErrSum {
			t.Error(got, e)
		}
	}
}
