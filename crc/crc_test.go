package crc_test

import (
	"bytes"
	"hash/crc32"
	"math"
	"math/rand"
	"testing"

	"nacelle/api"
	"nacelle/crc"
)

// P4.1

func TestSum(t *testing.T) {
	for _, c := range []struct {
		data string
		want uint32
	}{
		{"", 0},
		{"123456789", 0xCBF43926},
		{"123456789", 3421780262},
		{"\x00", 0xD202EF8D},
		{"\x00\x00", 0x41D912FF},
		{"\xFF", 0xFF000000},
		{"\xFF\xFF\xFF\xFF", 0xFFFFFFFF},
		{"\x00\x00\x00\x00", 0x2144DF1C},
		{"a", 0xE8B7BE43},
		{"message digest", 0x20159D7F},
		{"abcdefghijklmnopqrstuvwxyz", 0x4C2750BD},
	} {
		if got := crc.Sum([]byte(c.data)); got != c.want {
			t.Errorf("%q: %#x, but not %#x", c.data, got, c.want)
		}
		if got := crc.Update(0, []byte(c.data)); got != c.want {
			t.Errorf("%q: %#x, but not %#x", c.data, got, c.want)
		}
	}
}

// TestSamples compares with the definition, and with the library, which has the same polynomial.
func TestSamples(t *testing.T) {
	r := rand.New(rand.NewSource(41))
	for _, data := range append(samples(r), someBytes(r, 100000)) {
		want := sum(data)
		if got := crc.Sum(data); got != want || got != crc32.ChecksumIEEE(data) {
			t.Errorf("%v: %#x, but not %#x", data, got, want)
		}
	}
}

// TestTwoBytes has all sequences of two bytes.
func TestTwoBytes(t *testing.T) {
	for i := range 1 << 16 {
		data := []byte{byte(i), byte(i >> 8)}
		if got := crc.Sum(data); got != sum(data) {
			t.Errorf("%v: %#x", data, got)
		}
	}
}

// TestUpdate splits sequences at every place.
func TestUpdate(t *testing.T) {
	for _, data := range samples(rand.New(rand.NewSource(42))) {
		want, parts := sum(data), uint32(0)
		for i := range len(data) + 1 {
			if got := crc.Update(crc.Sum(data[:i]), data[i:]); got != want {
				t.Errorf("%v %d: %#x, but not %#x", data, i, got, want)
			}
			if i > 0 {
				parts = crc.Update(parts, data[i-1:i])
			}
		}
		if parts != want {
			t.Errorf("%v: %#x, but not %#x", data, parts, want)
		}
	}
}

// TestUpdateAny begins with any sum, since each one is the sum of four bytes.
func TestUpdateAny(t *testing.T) {
	r := rand.New(rand.NewSource(43))
	sums := []uint32{0, 1, 0x80000000, 0x7FFFFFFF, 0xFFFFFFFF, 0xEDB88320, 0x2144DF1C}
	for len(sums) < 2000 {
		sums = append(sums, r.Uint32())
	}
	for i, s := range sums {
		first, second := fourBytes(s), someBytes(r, i%13)
		if got := crc.Sum(first); got != s {
			t.Fatalf("%v: %#x, but not %#x", first, got, s)
		}
		if got, want := crc.Update(s, second), sum(append(first, second...)); got != want {
			t.Errorf("%#x %v: %#x, but not %#x", s, second, got, want)
		}
		if got := crc.Update(s, nil); got != s {
			t.Errorf("%#x: %#x", s, got)
		}
	}
}

// P4.2

func TestAppend(t *testing.T) {
	for _, c := range []struct{ data, want string }{
		{"", "\x00\x00\x00\x00"},
		{"\x00", "\x00\x8D\xEF\x02\xD2"},
		{"\x00\x00\x00\x00", "\x00\x00\x00\x00\x1C\xDF\x44\x21"},
		{"123456789", "123456789\x26\x39\xF4\xCB"},
		{"\xFF\xFF\xFF\xFF", "\xFF\xFF\xFF\xFF\xFF\xFF\xFF\xFF"},
	} {
		if got := crc.Append([]byte(c.data)); string(got) != c.want {
			t.Errorf("%q: %q, but not %q", c.data, got, c.want)
		}
	}
	r := rand.New(rand.NewSource(44))
	for _, data := range append(samples(r), someBytes(r, 100000)) {
		if got := crc.Append(data); !bytes.Equal(got, withTrailer(data, sum(data))) {
			t.Errorf("%v: %v", data, got)
		}
	}
}

func TestCheck(t *testing.T) {
	for _, c := range []struct {
		data, want string
		e          api.Errno
	}{
		{"\x00\x00\x00\x00", "", api.OK},
		{"\x00\x8D\xEF\x02\xD2", "\x00", api.OK},
		{"123456789\x26\x39\xF4\xCB", "123456789", api.OK},
		{"\xFF\xFF\xFF\xFF\xFF\xFF\xFF\xFF", "\xFF\xFF\xFF\xFF", api.OK},
		{"", "", crc.ErrSum},
		{"\x00", "", crc.ErrSum},
		{"\x00\x00", "", crc.ErrSum},
		{"\x00\x00\x00", "", crc.ErrSum},
		{"\x26\x39\xF4", "", crc.ErrSum},
		{"\x00\x00\x00\x01", "", crc.ErrSum},
		{"\x01\x00\x00\x00", "", crc.ErrSum},
		{"\xFF\xFF\xFF\xFF", "", crc.ErrSum},
		{"\x00\x00\x00\x00\x01", "", crc.ErrSum},
		{"\x00\x00\x00\x00\x00", "", crc.ErrSum},
		{"123456789\xCB\xF4\x39\x26", "", crc.ErrSum},
		{"123456789\xD9\xC6\x0B\x34", "", crc.ErrSum},
		{"\x26\x39\xF4\xCB123456789", "", crc.ErrSum},
		{"123456789\x26\x39\xF4", "", crc.ErrSum},
		{"123456789\x26\x39\xF4\xCB\x00", "", crc.ErrSum},
	} {
		if got, e := crc.Check([]byte(c.data)); string(got) != c.want || e != c.e {
			t.Errorf("%q: %q %d, but not %q %d", c.data, got, e, c.want, c.e)
		}
	}
}

// TestShort has all sequences of fewer than three bytes, and many of three. None is long enough.
func TestShort(t *testing.T) {
	for i := range 1 << 16 {
		data := []byte{byte(i), byte(i >> 8), byte(i * 37)}
		for n := range 4 {
			if got, e := crc.Check(data[:n]); len(got) != 0 || e != crc.ErrSum {
				t.Errorf("%v: %v %d", data[:n], got, e)
			}
		}
	}
}

// TestTrailers gives sequences other trailers than theirs: one of its bytes has any other value.
func TestTrailers(t *testing.T) {
	r := rand.New(rand.NewSource(45))
	for n := range 40 {
		data := someBytes(r, n)
		for i := range 4 {
			for other := 1; other < 256; other++ {
				wrong := withTrailer(data, sum(data)^uint32(other)<<(8*i))
				if got, e := crc.Check(wrong); len(got) != 0 || e != crc.ErrSum {
					t.Errorf("%v: %v %d", wrong, got, e)
				}
			}
		}
	}
}

// P4.3

// TestCombine compares with bits 0 that are processed one at a time; b is arbitrary.
func TestCombine(t *testing.T) {
	r := rand.New(rand.NewSource(46))
	for _, a := range []uint32{0, 1, 0x80, 0x100, 0x80000000, 0xFFFFFFFF, 0xEDB88320, r.Uint32(), r.Uint32()} {
		register := a
		for n := range 300 {
			for _, b := range []uint32{0, 1, 0xFFFFFFFF, a, r.Uint32()} {
				if got := crc.Combine(a, b, n); got != register^b {
					t.Errorf("%#x %#x %d: %#x, but not %#x", a, b, n, got, register^b)
				}
			}
			register = zeros(register, 1)
		}
	}
}

// TestCombineBits has each bit of a register alone.
func TestCombineBits(t *testing.T) {
	for i := range 32 {
		for _, n := range []int{0, 1, 2, 3, 4, 5, 1000, 65535} {
			if got, want := crc.Combine(1<<i, 7, n), zeros(1<<i, n)^7; got != want {
				t.Errorf("%d %d: %#x, but not %#x", i, n, got, want)
			}
		}
	}
}

// TestCombineLong goes through numbers of bytes up to the greatest one.
func TestCombineLong(t *testing.T) {
	register, last := uint32(0x12345678), 0
	check := func(n int) {
		register, last = zeros(register, n-last), n
		if got := crc.Combine(0x12345678, 9, n); got != register^9 {
			t.Errorf("%d: %#x, but not %#x", n, got, register^9)
		}
	}
	for n := 0; n < crc.MaxBytes-1; n += 1009 {
		check(n)
	}
	check(crc.MaxBytes - 1)
	check(crc.MaxBytes)
}

func TestCombineLimits(t *testing.T) {
	for _, n := range []int{-1, -2, -1 << 20, -1 << 32, math.MinInt, math.MinInt + 1, crc.MaxBytes + 1, crc.MaxBytes + 2, 1 << 21, 1<<32 - 1, 1 << 32, 1<<32 + 1, math.MaxInt} {
		for _, a := range []uint32{0, 5, 0xFFFFFFFF} {
			if got := crc.Combine(a, 6, n); got != 0 {
				t.Errorf("%#x %d: %#x", a, n, got)
			}
		}
	}
	if got := crc.Combine(5, 6, 0); got != 5^6 {
		t.Error(got)
	}
}

// TestCombineSums joins sequences, also those with the greatest number of bytes.
func TestCombineSums(t *testing.T) {
	r := rand.New(rand.NewSource(47))
	join := func(x, y []byte) {
		whole := append(bytes.Clone(x), y...)
		if got, want := crc.Combine(sum(x), sum(y), len(y)), sum(whole); got != want {
			t.Errorf("%d %d: %#x, but not %#x", len(x), len(y), got, want)
		}
	}
	for range 1000 {
		join(someBytes(r, r.Intn(40)), someBytes(r, r.Intn(40)))
	}
	join(nil, nil)
	join(someBytes(r, 3), make([]byte, crc.MaxBytes))
	join(someBytes(r, crc.MaxBytes+5), someBytes(r, crc.MaxBytes))
}
