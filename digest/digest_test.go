package digest_test

import (
	"bytes"
	"fmt"
	"math"
	"math/rand"
	"strings"
	"testing"

	"nacelle/api"
	"nacelle/digest"
)

// P5.1

func TestNew(t *testing.T) {
	if s := digest.New(); s.Sum != 0x6E6163656C6C6521 || s.Len != 0 {
		t.Errorf("%#x %d", s.Sum, s.Len)
	}
}

func TestAdd(t *testing.T) {
	for _, c := range []struct {
		sum  uint64
		n    int
		data string
		want uint64
	}{
		{0x6E6163656C6C6521, 0, "", 0x6E6163656C6C6521},
		{0x6E6163656C6C6521, 0, "a", 0x9B96C6C6540C5282},
		{0, 0, "", 0},
		{0, 5, "\x00", 0},
		{0, 5, "\x01", 0x0001000000100000},
		{1, 5, "\x01", 0},
		{1, 5, "\x00", 0x0001000000100000},
		{0xFF, -5, "\xFF", 0},
		{0xFF, -5, "\x00", 0x00FF00000FF00000},
		{1 << 63, 7, "\x00", 1 << 19},
		{1 << 35, 7, "\x00", 1<<55 | 1<<19},
		{1 << 36, 7, "\x00", 1 << 56},
		{1 << 43, 7, "\x00", 1 << 63},
		{1 << 44, 7, "\x00", 1},
		{0, 0, "\x00\x00\x00\x01", 0x0001000000100000},
	} {
		s := digest.Add(digest.State{Sum: c.sum, Len: c.n}, []byte(c.data))
		if s.Sum != c.want || s.Len != c.n+len(c.data) {
			t.Errorf("%#x %d %q: %#x %d, but not %#x", c.sum, c.n, c.data, s.Sum, s.Len, c.want)
		}
	}
}

// TestAddAny adds every byte, and sequences, to states of any kind.
func TestAddAny(t *testing.T) {
	r := rand.New(rand.NewSource(61))
	check := func(sum uint64, n int, data []byte) {
		s := digest.Add(digest.State{Sum: sum, Len: n}, data)
		if want := added(sum, data); s.Sum != want || s.Len != n+len(data) {
			t.Errorf("%#x %d %v: %#x %d, but not %#x", sum, n, data, s.Sum, s.Len, want)
		}
	}
	for i, sum := range numbers(r) {
		n := lengths()[i%len(lengths())]
		if n > math.MaxInt-9 {
			n -= 9
		}
		check(sum, n, nil)
		check(sum, n, []byte{byte(i)})
		check(sum, n, someBytes(r, 1+i%9))
	}
	for v := range 256 {
		for _, sum := range []uint64{0, 1, 0xFF, 0x6E6163656C6C6521, math.MaxUint64, r.Uint64()} {
			check(sum, v, []byte{byte(v)})
		}
	}
}

// TestAddLong leaves open what Len is: there is no next number.
func TestAddLong(t *testing.T) {
	if s := digest.Add(digest.State{Sum: 5, Len: math.MaxInt}, []byte("ab")); s.Sum != added(5, []byte("ab")) {
		t.Errorf("%#x", s.Sum)
	}
}

func TestFinish(t *testing.T) {
	for _, c := range []struct {
		sum  uint64
		n    int
		want uint64
	}{
		{0x6E6163656C6C6521, 0, 0x169ADCE757BAFC14},
		{0x9B96C6C6540C5282, 1, 0xF787CD54E9CE685F},
		{0, 0, 0},
		{5, 5, 0},
		{0xFFFFFFFFFFFFFFFF, -1, 0},
		{0x8000000000000000, math.MinInt, 0},
		{0x7FFFFFFFFFFFFFFF, math.MaxInt, 0},
		{0xFFFFFFFFFFFFFFF8, -8, 0},
		{1, 0, 0x0000102000010301},
		{0, 1, 0x0000102000010301},
		{2, 3, 0x0000102000010301},
		{0xFFFFFFFFFFFFFFFE, -1, 0x0000102000010301},
		{0, -1, 0x00000FE00000FF00},
	} {
		if got := digest.Finish(digest.State{Sum: c.sum, Len: c.n}); got != c.want || got != finished(c.sum, c.n) {
			t.Errorf("%#x %d: %#x, but not %#x", c.sum, c.n, got, c.want)
		}
	}
}

func TestFinishAny(t *testing.T) {
	for _, sum := range numbers(rand.New(rand.NewSource(62))) {
		for _, n := range lengths() {
			if got, want := digest.Finish(digest.State{Sum: sum, Len: n}), finished(sum, n); got != want {
				t.Errorf("%#x %d: %#x, but not %#x", sum, n, got, want)
			}
		}
	}
}

// P5.2

func TestOf(t *testing.T) {
	for _, c := range []struct {
		data string
		want uint64
	}{
		{"", 0x169ADCE757BAFC14},
		{"a", 0xF787CD54E9CE685F},
	} {
		if got := digest.Of([]byte(c.data)); got != c.want {
			t.Errorf("%q: %#x, but not %#x", c.data, got, c.want)
		}
	}
	r := rand.New(rand.NewSource(63))
	for _, data := range append(samples(r), someBytes(r, 20000)) {
		got, want := digest.Of(data), whole(data)
		if got != want || digest.Finish(digest.Add(digest.New(), data)) != want {
			t.Errorf("%v: %#x, but not %#x", data, got, want)
		}
	}
}

// TestTwoBytes has all sequences of two bytes.
func TestTwoBytes(t *testing.T) {
	for i := range 1 << 16 {
		data := []byte{byte(i), byte(i >> 8)}
		if got, want := digest.Of(data), whole(data); got != want {
			t.Errorf("%v: %#x, but not %#x", data, got, want)
		}
	}
}

func TestBytes(t *testing.T) {
	for _, c := range []struct {
		d    uint64
		want string
	}{
		{0, "\x00\x00\x00\x00\x00\x00\x00\x00"},
		{1, "\x01\x00\x00\x00\x00\x00\x00\x00"},
		{255, "\xFF\x00\x00\x00\x00\x00\x00\x00"},
		{256, "\x00\x01\x00\x00\x00\x00\x00\x00"},
		{1 << 63, "\x00\x00\x00\x00\x00\x00\x00\x80"},
		{0x0102030405060708, "\x08\x07\x06\x05\x04\x03\x02\x01"},
		{math.MaxUint64, "\xFF\xFF\xFF\xFF\xFF\xFF\xFF\xFF"},
	} {
		if got := digest.Bytes(c.d); string(got) != c.want {
			t.Errorf("%#x: %q, but not %q", c.d, got, c.want)
		}
	}
	for _, d := range numbers(rand.New(rand.NewSource(64))) {
		if got := digest.Bytes(d); !bytes.Equal(got, eight(d)) {
			t.Errorf("%#x: %v", d, got)
		}
	}
}

func TestPair(t *testing.T) {
	for _, c := range []struct {
		a, b uint64
		data string
	}{
		{0, 0, strings.Repeat("\x00", 16)},
		{1, 2, "\x01\x00\x00\x00\x00\x00\x00\x00\x02\x00\x00\x00\x00\x00\x00\x00"},
		{2, 1, "\x02\x00\x00\x00\x00\x00\x00\x00\x01\x00\x00\x00\x00\x00\x00\x00"},
		{0x0102030405060708, 0x090A0B0C0D0E0F10, "\x08\x07\x06\x05\x04\x03\x02\x01\x10\x0F\x0E\x0D\x0C\x0B\x0A\x09"},
		{math.MaxUint64, 0, strings.Repeat("\xFF", 8) + strings.Repeat("\x00", 8)},
	} {
		if got, want := digest.Pair(c.a, c.b), whole([]byte(c.data)); got != want {
			t.Errorf("%#x %#x: %#x, but not %#x", c.a, c.b, got, want)
		}
	}
	l := numbers(rand.New(rand.NewSource(65)))
	for i, a := range l {
		b := l[(7*i+3)%len(l)]
		if got, want := digest.Pair(a, b), whole(append(eight(a), eight(b)...)); got != want {
			t.Errorf("%#x %#x: %#x, but not %#x", a, b, got, want)
		}
	}
}

// P5.3

func TestText(t *testing.T) {
	for _, c := range []struct {
		d    uint64
		want string
	}{
		{0, "0000000000000000"},
		{9, "0000000000000009"},
		{10, "000000000000000a"},
		{15, "000000000000000f"},
		{16, "0000000000000010"},
		{255, "00000000000000ff"},
		{1 << 60, "1000000000000000"},
		{1 << 63, "8000000000000000"},
		{0x0123456789ABCDEF, "0123456789abcdef"},
		{0xFEDCBA9876543210, "fedcba9876543210"},
		{0x169ADCE757BAFC14, "169adce757bafc14"},
		{math.MaxUint64, "ffffffffffffffff"},
	} {
		if got := digest.Text(c.d); got != c.want {
			t.Errorf("%#x: %q, but not %q", c.d, got, c.want)
		}
		if got, e := digest.Parse(c.want); got != c.d || e != api.OK {
			t.Errorf("%q: %#x %d, but not %#x", c.want, got, e, c.d)
		}
	}
	for _, d := range numbers(rand.New(rand.NewSource(66))) {
		text := fmt.Sprintf("%016x", d)
		if got := digest.Text(d); got != text {
			t.Errorf("%#x: %q, but not %q", d, got, text)
		}
		if got, e := digest.Parse(text); got != d || e != api.OK {
			t.Errorf("%q: %#x %d, but not %#x", text, got, e, d)
		}
	}
}

// TestParseWrong has texts that are not those of numbers.
func TestParseWrong(t *testing.T) {
	for _, text := range []string{
		"", "0", "f", "FF", "ff", "255", "00", "00000000000000f",
		"0000000000000000\x00", "00000000000000000", "00000000000000001", "10000000000000000", "0fedcba9876543210",
		"00000000000000FF", "000000000000000A", "F000000000000000", "0123456789ABCDEF", "0123456789abcdeF",
		"000000000000000g", "g000000000000000", "`000000000000000", "/000000000000000", ":000000000000000", "@000000000000000", "000000000000000G",
		"0x00000000000000", "0X00000000000000", "+000000000000001", "-000000000000001", "0x000000000000ff",
		" 000000000000000", "000000000000000 ", "               0", "000000000000000\n", "\t000000000000000", "000000000000000.", "00000000_0000000",
		"000000000000000\x00", "\x00\x00\x00\x00\x00\x00\x00\x00\x00\x00\x00\x00\x00\x00\x00\x00",
		"\xFF\xFF\xFF\xFF\xFF\xFF\xFF\xFF\xFF\xFF\xFF\xFF\xFF\xFF\xFF\xFF", "00000000000000\xC3\xA9", "\uFF10\uFF10\uFF10\uFF10\uFF10f",
		strings.Repeat("0", 32), strings.Repeat("0", 65535), strings.Repeat("f", 1<<20),
	} {
		if got, e := digest.Parse(text); got != 0 || e != digest.ErrText {
			t.Errorf("%q: %#x %d", text, got, e)
		}
	}
}

// TestParseBytes has every byte in every place.
func TestParseBytes(t *testing.T) {
	for place := range 16 {
		for v := range 256 {
			text := []byte("fedcba9876543210")
			text[place] = byte(v)
			digit := strings.IndexByte("0123456789abcdef", byte(v))
			got, e := digest.Parse(string(text))
			if digit < 0 {
				if got != 0 || e != digest.ErrText {
					t.Errorf("%q: %#x %d", text, got, e)
				}
				continue
			}
			shift := 4 * (15 - place)
			want := 0xFEDCBA9876543210&^(15<<shift) | uint64(digit)<<shift
			if got != want || e != api.OK {
				t.Errorf("%q: %#x %d, but not %#x", text, got, e, want)
			}
		}
	}
}

// TestParseLengths has the digits of a number repeated, and cut at every length.
func TestParseLengths(t *testing.T) {
	all := strings.Repeat("9a0f", 20)
	for n := range len(all) + 1 {
		got, e := digest.Parse(all[:n])
		if n == 16 {
			if got != 0x9A0F9A0F9A0F9A0F || e != api.OK {
				t.Errorf("%#x %d", got, e)
			}
		} else if got != 0 || e != digest.ErrText {
			t.Errorf("%d: %#x %d", n, got, e)
		}
	}
}
