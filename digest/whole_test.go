package digest_test

import (
	"bytes"
	"math"
	"math/rand"
	"slices"
	"sync"
	"testing"

	"nacelle/api"
	"nacelle/digest"
)

// P5.4

// TestParts divides sequences among calls of Add: at every two places, into single bytes, and with empty parts.
func TestParts(t *testing.T) {
	r := rand.New(rand.NewSource(71))
	for n := range 40 {
		data := someBytes(r, n)
		want := digest.Of(data)
		for i := range n + 1 {
			for j := i; j <= n; j++ {
				s := digest.Add(digest.Add(digest.Add(digest.New(), data[:i]), data[i:j]), data[j:])
				if got := digest.Finish(s); got != want || s.Len != n {
					t.Errorf("%v %d %d: %#x %d, but not %#x", data, i, j, got, s.Len, want)
				}
			}
		}
		s := digest.New()
		for i := range data {
			s = digest.Add(digest.Add(s, data[i:i+1]), nil)
		}
		if got := digest.Finish(s); got != want {
			t.Errorf("%v: %#x, but not %#x", data, got, want)
		}
	}
}

// TestContinued finishes a state, and adds more to the same one.
func TestContinued(t *testing.T) {
	s := digest.Add(digest.New(), []byte("12345"))
	if digest.Finish(s) != digest.Of([]byte("12345")) || digest.Finish(s) != digest.Of([]byte("12345")) {
		t.Error(s)
	}
	one, two := digest.Add(s, []byte("6")), digest.Add(s, []byte("7"))
	if digest.Finish(one) != digest.Of([]byte("123456")) || digest.Finish(two) != digest.Of([]byte("123457")) {
		t.Error(one, two)
	}
}

// TestOneByte gives each byte of some sequences any other value.
func TestOneByte(t *testing.T) {
	r := rand.New(rand.NewSource(72))
	for _, n := range []int{1, 2, 3, 7, 8, 9, 16, 40, 100} {
		for _, data := range [][]byte{make([]byte, n), bytes.Repeat([]byte{255}, n), someBytes(r, n)} {
			for i := range data {
				seen := map[uint64]bool{}
				for v := range 256 {
					data[i] = byte(v)
					seen[digest.Of(data)] = true
				}
				if len(seen) != 256 {
					t.Errorf("%v %d: %d digests", data, i, len(seen))
				}
			}
		}
	}
}

// TestUndone shows that Finish and Add lose nothing: the value before can be computed from the one after, so different values become different ones.
func TestUndone(t *testing.T) {
	for i, sum := range numbers(rand.New(rand.NewSource(73))) {
		for _, n := range lengths() {
			if got := unfinished(digest.Finish(digest.State{Sum: sum, Len: n}), n); got != sum {
				t.Errorf("%#x %d: %#x", sum, n, got)
			}
		}
		v := byte(i)
		if got := without(digest.Add(digest.State{Sum: sum}, []byte{v}).Sum, v); got != sum {
			t.Errorf("%#x %d: %#x", sum, v, got)
		}
	}
}

// TestSums gives states of one Len sums that differ in one bit, or by 1.
func TestSums(t *testing.T) {
	for _, sum := range numbers(rand.New(rand.NewSource(74))) {
		for _, n := range []int{0, 1, -1, math.MaxInt, math.MinInt} {
			d := digest.Finish(digest.State{Sum: sum, Len: n})
			for i := range 64 {
				if digest.Finish(digest.State{Sum: sum ^ 1<<i, Len: n}) == d {
					t.Errorf("%#x %d %d", sum, n, i)
				}
			}
			if digest.Finish(digest.State{Sum: sum + 1, Len: n}) == d {
				t.Errorf("%#x %d", sum, n)
			}
		}
	}
}

// R1, R2, R7

// TestArbitrary gives arbitrary arguments to every function: none panics, and Parse only accepts what Text returns.
func TestArbitrary(t *testing.T) {
	r := rand.New(rand.NewSource(75))
	for range 20000 {
		s := digest.State{Sum: r.Uint64(), Len: int(r.Uint64())}
		digest.Finish(digest.Add(s, someBytes(r, r.Intn(20))))
		digest.Pair(r.Uint64(), r.Uint64())
		text := []byte(digest.Text(r.Uint64()))
		for range r.Intn(3) {
			text[r.Intn(16)] = byte(r.Intn(256))
		}
		text = text[:16-r.Intn(20)/18]
		d, e := digest.Parse(string(text))
		if e == api.OK && digest.Text(d) != string(text) || e != api.OK && (d != 0 || e != digest.ErrText) {
			t.Errorf("%q: %#x %d", text, d, e)
		}
	}
}

// R3

// TestArguments checks that nothing is written to arguments or behind them.
func TestArguments(t *testing.T) {
	for _, text := range []string{"", "\x00", "123456789"} {
		all := append([]byte(text), bytes.Repeat([]byte{77}, 40)...)
		data, kept := all[:len(text)], bytes.Clone(all)
		s := digest.New()
		digest.Add(s, data)
		digest.Of(data)
		if s != digest.New() || !bytes.Equal(all, kept) {
			t.Error(text, s, all)
		}
	}
}

// TestResults checks that one result does not change another one.
func TestResults(t *testing.T) {
	first, second := digest.Bytes(7), digest.Bytes(7)
	first = first[:cap(first)]
	for i := range first {
		first[i] = 99
	}
	_ = append(digest.Bytes(8), 5)
	if !bytes.Equal(second, eight(7)) || !bytes.Equal(digest.Bytes(7), eight(7)) {
		t.Error(second, digest.Bytes(7))
	}
}

// R4

// TestRepeated compares results of many calls at the same time with those of the same calls one after the other.
func TestRepeated(t *testing.T) {
	data := someBytes(rand.New(rand.NewSource(76)), 100)
	run := func() []any {
		var out []any
		for i := range 100 {
			d := digest.Of(data[:i])
			back, e := digest.Parse(digest.Text(d))
			_, f := digest.Parse(digest.Text(d)[1:])
			out = append(out, digest.New(), digest.Add(digest.State{Sum: d, Len: -i}, data), d, digest.Pair(d, uint64(i)), string(digest.Bytes(d)), digest.Text(d), back, e, f)
		}
		return out
	}
	want := run()
	var all sync.WaitGroup
	for range 4 {
		all.Go(func() {
			if !slices.Equal(run(), want) {
				t.Error("results differ")
			}
		})
	}
	all.Wait()
}

// R5

// TestEmpty: sequences without bytes are alike, whether or not they are nil.
func TestEmpty(t *testing.T) {
	for _, l := range [][]byte{nil, {}, make([]byte, 0, 9)} {
		s := digest.State{Sum: 12345, Len: 6}
		if got := digest.Add(s, l); got != s {
			t.Error(got)
		}
		if got := digest.Of(l); got != 0x169ADCE757BAFC14 {
			t.Errorf("%#x", got)
		}
	}
}
