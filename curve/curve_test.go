package curve_test

import (
	"math"
	"math/big"
	"math/rand"
	"slices"
	"sync"
	"testing"

	"nacelle/api"
	"nacelle/curve"
	"nacelle/rat"
)

const top = api.MaxRat

// The signatures of the chapter.
var (
	_ func(api.Curve) bool                              = curve.Valid
	_ func(api.Curve, api.Rat) (api.Rat, api.Errno)     = curve.At
	_ func(api.Curve) (api.Curve, api.Errno)            = curve.Norm
	_ func(api.Curve) ([]api.Rat, api.Errno)            = curve.Breaks
	_ func(api.Curve, api.Curve) (api.Curve, api.Errno) = curve.Sum
	_ func(api.Curve, api.Curve) (api.Curve, api.Errno) = curve.Min
	_ func(api.Curve, api.Rat) (api.Curve, api.Errno)   = curve.Shift
	_ func(api.Curve) (api.Rat, api.Errno)              = curve.Rate
)

// number reads a text such as 5/6.
func number(t *testing.T, s string) api.Rat {
	t.Helper()
	x, e := rat.Parse(s)
	if e != api.OK {
		t.Fatal(s, "is no number")
	}
	return x
}

func numbers(t *testing.T, texts ...string) []api.Rat {
	t.Helper()
	var l []api.Rat
	for _, s := range texts {
		l = append(l, number(t, s))
	}
	return l
}

// buckets returns the curve with the given bursts and rates, in turn.
func buckets(t *testing.T, texts ...string) api.Curve {
	t.Helper()
	var c api.Curve
	for pair := range slices.Chunk(numbers(t, texts...), 2) {
		c = append(c, api.Bucket{Burst: pair[0], Rate: pair[1]})
	}
	return c
}

func whole(n int) api.Rat { return api.Rat{N: n, D: 1} }

func bucket(burst, rate int) api.Bucket { return api.Bucket{Burst: whole(burst), Rate: whole(rate)} }

// staircase has n buckets of which none dominates another one: the bursts are multiples of a step, the rates fall by 1 to low.
func staircase(n, step, low int) api.Curve {
	var c api.Curve
	for i := range n {
		c = append(c, bucket(i*step, low+n-1-i))
	}
	return c
}

// repeat returns n times the same bucket.
func repeat(b api.Bucket, n int) api.Curve { return slices.Repeat(api.Curve{b}, n) }

// P2.1: Valid

// invalids has one number for each way in which a burst or a rate can be wrong.
func invalids() []api.Rat {
	return []api.Rat{{}, {N: 1}, {N: 1, D: -1}, {N: -1, D: -1}, {N: 0, D: 2}, {N: 2, D: 4}, {N: top + 1, D: 1}, {N: 1, D: top + 1}, {N: -1, D: 1}, {N: -1, D: top}, {N: -top, D: 1}, {N: math.MinInt, D: 1}, {N: math.MaxInt, D: math.MaxInt}, {N: 1, D: math.MinInt}}
}

func TestValid(t *testing.T) {
	for i, c := range []api.Curve{
		buckets(t, "0", "0"), buckets(t, "1073741824", "1073741824"), buckets(t, "1/1073741824", "1073741823/1073741824"),
		buckets(t, "10", "2", "30", "1/2", "40", "1"), buckets(t, "1", "1", "1", "1"), staircase(32, 5, 0), repeat(bucket(3, 4), 32),
	} {
		if !curve.Valid(c) {
			t.Error(i, c)
		}
	}
	for i, c := range badCurves() {
		if curve.Valid(c) {
			t.Error(i, c)
		}
	}
}

// badCurves are the empty ones, those with too many buckets, and those with one bad number at each place.
func badCurves() []api.Curve {
	l := []api.Curve{nil, {}, staircase(33, 1, 0), repeat(bucket(1, 1), 33), repeat(bucket(1, 1), 1000)}
	for _, x := range invalids() {
		for _, n := range []int{1, 3, 32} {
			for _, at := range []int{0, n / 2, n - 1} {
				c, d := staircase(n, 1, 0), staircase(n, 1, 0)
				c[at].Burst, d[at].Rate = x, x
				l = append(l, c, d)
			}
		}
	}
	return l
}

// P2.1 to P2.3: arguments that are not valid

func TestInvalid(t *testing.T) {
	good, zero := staircase(6, 1, top-20), whole(0)
	for i, bad := range badCurves() {
		noCurve(t, i, "Norm")(curve.Norm(bad))
		noCurve(t, i, "Sum")(curve.Sum(bad, good))
		noCurve(t, i, "Sum")(curve.Sum(good, bad))
		noCurve(t, i, "Sum")(curve.Sum(bad, bad))
		noCurve(t, i, "Min")(curve.Min(bad, good))
		noCurve(t, i, "Min")(curve.Min(good, bad))
		noCurve(t, i, "Min")(curve.Min(bad, bad))
		noCurve(t, i, "Shift")(curve.Shift(bad, zero))
		noCurve(t, i, "Shift")(curve.Shift(bad, whole(top)))
		noNumber(t, i, "At")(curve.At(bad, zero))
		noNumber(t, i, "At")(curve.At(bad, whole(top)))
		noNumber(t, i, "Rate")(curve.Rate(bad))
		if l, e := curve.Breaks(bad); len(l) != 0 || e != api.ErrArg {
			t.Error(i, "Breaks", l, e)
		}
	}
	for i, bad := range invalids() {
		noNumber(t, i, "At")(curve.At(good, bad))
		noCurve(t, i, "Shift")(curve.Shift(good, bad))
		noNumber(t, i, "At")(curve.At(nil, bad))
		noCurve(t, i, "Shift")(curve.Shift(nil, bad))
	}
}

func noCurve(t *testing.T, i int, name string) func(api.Curve, api.Errno) {
	return func(c api.Curve, e api.Errno) {
		t.Helper()
		if len(c) != 0 || e != api.ErrArg {
			t.Error(i, name, c, e)
		}
	}
}

func noNumber(t *testing.T, i int, name string) func(api.Rat, api.Errno) {
	return func(x api.Rat, e api.Errno) {
		t.Helper()
		if x != (api.Rat{}) || e != api.ErrArg {
			t.Error(i, name, x, e)
		}
	}
}

// P2.1: At

func TestAt(t *testing.T) {
	c := buckets(t, "10", "2", "30", "1/2", "40", "1")
	for _, x := range []struct{ at, want string }{{"0", "10"}, {"5", "20"}, {"40/3", "110/3"}, {"13", "36"}, {"14", "37"}, {"20", "40"}, {"1/7", "72/7"}} {
		if v, e := curve.At(c, number(t, x.at)); v != number(t, x.want) || e != api.OK {
			t.Error(x, v, e)
		}
	}
	if v, e := curve.At(repeat(bucket(top, 0), 32), whole(top)); v != whole(top) || e != api.OK {
		t.Error(v, e)
	}
}

func TestAtLong(t *testing.T) {
	for i, x := range []struct {
		c    api.Curve
		at   string
		want api.Errno
	}{
		{buckets(t, "0", "1073741824"), "1", api.OK},
		{buckets(t, "1", "1073741824"), "1", api.ErrLong},
		{buckets(t, "0", "1073741824"), "2", api.ErrLong},
		{buckets(t, "0", "1/1073741824"), "1/2", api.ErrLong},
		{buckets(t, "1073741824", "1"), "1/2", api.ErrLong},
		{buckets(t, "1073741824", "1/2"), "0", api.OK},
		// The sum would fit, but the product does not.
		{buckets(t, "1/3", "1/3"), "1/536870912", api.ErrLong},
		// Buckets that do not determine the value are computed, too, wherever they are, even if they are dominated.
		{buckets(t, "0", "1", "1", "1073741824"), "1", api.ErrLong},
		{buckets(t, "1", "1073741824", "0", "1"), "1", api.ErrLong},
		{buckets(t, "0", "0", "5", "1", "1", "1073741824", "3", "2"), "2", api.ErrLong},
	} {
		v, e := curve.At(x.c, number(t, x.at))
		if e != x.want || (e == api.OK) != rat.Valid(v) || e != api.OK && v != (api.Rat{}) {
			t.Error(i, v, e)
		}
	}
}

// P2.2: Norm

func TestNorm(t *testing.T) {
	for i, x := range []struct{ c, want api.Curve }{
		{buckets(t, "10", "2", "30", "1/2", "40", "1"), buckets(t, "10", "2", "30", "1/2")},
		{buckets(t, "7", "3"), buckets(t, "7", "3")},
		{repeat(bucket(7, 3), 32), buckets(t, "7", "3")},
		{buckets(t, "7", "3", "7", "2", "7", "4"), buckets(t, "7", "2")},
		{buckets(t, "7", "3", "6", "3", "8", "3"), buckets(t, "6", "3")},
		{buckets(t, "0", "5", "1", "7", "2", "6", "3", "5", "4", "4"), buckets(t, "0", "5", "4", "4")},
		{buckets(t, "4", "1", "1", "4", "4", "1", "1", "4", "4", "2", "2", "4"), buckets(t, "1", "4", "4", "1")},
		{buckets(t, "1/2", "1/3", "1/3", "1/2", "2/3", "1/4"), buckets(t, "1/3", "1/2", "1/2", "1/3", "2/3", "1/4")},
		{staircase(32, 3, 0), staircase(32, 3, 0)},
		{reversed(staircase(32, 3, 0)), staircase(32, 3, 0)},
		// Nothing is computed, so nothing is too large.
		{buckets(t, "1073741824", "1/1073741824", "1/1073741824", "1073741824"), buckets(t, "1/1073741824", "1073741824", "1073741824", "1/1073741824")},
	} {
		if n, e := curve.Norm(x.c); !slices.Equal(n, x.want) || e != api.OK {
			t.Error(i, n, e)
		}
	}
}

func reversed(c api.Curve) api.Curve {
	d := slices.Clone(c)
	slices.Reverse(d)
	return d
}

// TestNormAll tries all lists of up to 4 buckets with small numbers.
func TestNormAll(t *testing.T) {
	everyCurve(4, func(c api.Curve) {
		if n, e := curve.Norm(c); !slices.Equal(n, normal(c)) || e != api.OK {
			t.Error(c, n, e)
		}
	})
}

// everyCurve calls f with each list of 1 to most buckets whose bursts and rates are 0, 1 or 2.
func everyCurve(most int, f func(c api.Curve)) {
	var extend func(c api.Curve)
	extend = func(c api.Curve) {
		if len(c) > 0 {
			f(slices.Clone(c))
		}
		if len(c) == most {
			return
		}
		for i := range 9 {
			extend(append(slices.Clone(c), bucket(i/3, i%3)))
		}
	}
	extend(nil)
}

// normal is the normal form as the chapter's Terms define it.
func normal(l []api.Bucket) api.Curve {
	var n api.Curve
	for _, b := range l {
		worse := func(o api.Bucket) bool {
			return o != b && value(o.Burst).Cmp(value(b.Burst)) <= 0 && value(o.Rate).Cmp(value(b.Rate)) <= 0
		}
		if !slices.ContainsFunc(l, worse) && !slices.Contains(n, b) {
			n = append(n, b)
		}
	}
	slices.SortFunc(n, func(x, y api.Bucket) int { return value(x.Burst).Cmp(value(y.Burst)) })
	return n
}

// value takes the zero number, which comes with errors, for 0.
func value(x api.Rat) *big.Rat { return big.NewRat(int64(x.N), max(int64(x.D), 1)) }

// P2.2: Breaks

func TestBreaks(t *testing.T) {
	for i, x := range []struct {
		c    api.Curve
		want []api.Rat
	}{
		{buckets(t, "10", "2", "30", "1/2", "40", "1"), numbers(t, "40/3")},
		{buckets(t, "10", "2"), nil},
		{repeat(bucket(10, 2), 32), nil},
		{buckets(t, "1", "1", "2", "2", "3", "3"), nil},
		// Every two buckets have a breakpoint, not only those that follow each other.
		{buckets(t, "0", "7", "8", "3", "20", "1", "25", "1/2"), numbers(t, "2", "10/3", "50/13", "6", "34/5", "10")},
		{buckets(t, "25", "1/2", "8", "3", "0", "7", "20", "1"), numbers(t, "2", "10/3", "50/13", "6", "34/5", "10")},
		{buckets(t, "0", "3", "9", "2", "10", "0"), numbers(t, "1/2", "10/3", "9")},
		// All of these meet at the same point.
		{staircase(32, 5, 0), numbers(t, "5")},
		{buckets(t, "0", "1073741824", "1073741824", "0"), numbers(t, "1")},
		{buckets(t, "0", "1/1073741824", "1", "0"), numbers(t, "1073741824")},
	} {
		if l, e := curve.Breaks(x.c); !slices.Equal(l, x.want) || e != api.OK {
			t.Error(i, l, e)
		}
	}
}

// TestBreaksMany has 32 buckets with squares as bursts, so that two buckets meet at the sum of their indices.
func TestBreaksMany(t *testing.T) {
	c := staircase(32, 1, 0)
	var want []api.Rat
	for i := range c {
		c[i].Burst = whole(i * i)
	}
	for sum := 1; sum <= 30+31; sum++ {
		want = append(want, whole(sum))
	}
	if l, e := curve.Breaks(reversed(c)); !slices.Equal(l, want) || e != api.OK {
		t.Error(l, e)
	}
}

func TestBreaksLong(t *testing.T) {
	for i, x := range []struct {
		c    api.Curve
		want api.Errno
	}{
		// The difference of the bursts, that of the rates, and a quotient that is too large or too fine.
		{buckets(t, "1/1073741824", "2", "2", "1"), api.ErrLong},
		{buckets(t, "1", "2", "2", "1/1073741824"), api.ErrLong},
		{buckets(t, "0", "1", "1073741824", "1/2"), api.ErrLong},
		{buckets(t, "0", "1073741824", "1/2", "0"), api.ErrLong},
		// The quotients 1/32769, 32769 and 1 would fit, but the bursts, the rates, or both are too close.
		{buckets(t, "1/32769", "1/16384", "1/32768", "1/32768"), api.ErrLong},
		{buckets(t, "1/32768", "1/32768", "1/16384", "1/32769"), api.ErrLong},
		{buckets(t, "1/32769", "1/32768", "1/32768", "1/32769"), api.ErrLong},
		{buckets(t, "1/32768", "1/32769", "1/32769", "1/32768"), api.ErrLong},
		// Buckets that do not follow each other are computed, too; those that are dominated are not.
		{buckets(t, "1/32769", "4", "1/2", "3", "32769/32768", "2"), api.ErrLong},
		{buckets(t, "1/32769", "4", "1/2", "3"), api.OK},
		{buckets(t, "1/2", "3", "32769/32768", "2"), api.OK},
		{buckets(t, "1/32769", "2", "1", "1", "1/32768", "3"), api.OK},
		{buckets(t, "1/32768", "3", "1/32769", "2", "1", "1"), api.OK},
		{buckets(t, "0", "1", "1073741824", "3/2", "1073741824", "1"), api.OK},
	} {
		if l, e := curve.Breaks(x.c); e != x.want || e != api.OK && len(l) != 0 {
			t.Error(i, l, e)
		}
	}
}

// P2.2: Rate

func TestRate(t *testing.T) {
	for i, x := range []struct {
		c    api.Curve
		want string
	}{
		{buckets(t, "10", "2", "30", "1/2", "40", "1"), "1/2"},
		{buckets(t, "10", "2"), "2"},
		{buckets(t, "1", "1", "0", "5", "7", "3"), "1"},
		{buckets(t, "0", "2/5", "1", "3/8", "7", "1/3"), "1/3"},
		{buckets(t, "1073741824", "1/1073741824", "0", "1/1073741823"), "1/1073741824"},
		{buckets(t, "1073741824", "1073741824"), "1073741824"},
		{repeat(bucket(0, 0), 32), "0"},
		{staircase(32, 7, 4), "4"},
		{reversed(staircase(32, 7, 4)), "4"},
	} {
		if r, e := curve.Rate(x.c); r != number(t, x.want) || e != api.OK {
			t.Error(i, r, e)
		}
	}
}

// P2.3: Sum

func TestSum(t *testing.T) {
	for i, x := range []struct{ a, b, want api.Curve }{
		{buckets(t, "10", "2", "30", "1/2", "40", "1"), buckets(t, "5", "1"), buckets(t, "15", "3", "35", "3/2")},
		{buckets(t, "1", "4", "5", "2"), buckets(t, "3", "1", "10", "0"), buckets(t, "4", "5", "8", "3", "15", "2")},
		{buckets(t, "1", "4"), buckets(t, "3", "1"), buckets(t, "4", "5")},
		{buckets(t, "0", "0"), buckets(t, "1", "4", "5", "2", "5", "3"), buckets(t, "1", "4", "5", "2")},
		// Four sums, of which two are equal.
		{buckets(t, "0", "1", "1", "0"), buckets(t, "0", "1", "1", "0"), buckets(t, "0", "2", "1", "1", "2", "0")},
		// The limit itself: 32 by 1, and 4 by 8.
		{staircase(32, 3, 0), buckets(t, "2", "1"), raised(staircase(32, 3, 0), 2, 1)},
		{buckets(t, "2", "1"), staircase(32, 3, 0), raised(staircase(32, 3, 0), 2, 1)},
		{staircase(4, 1, 0), staircase(8, 4, 0), normal(sums(staircase(4, 1, 0), staircase(8, 4, 0)))},
		// The arguments are brought into normal form first, so these are 1 by 1, 1 by 32 and 2 by 16.
		{repeat(bucket(1, 2), 32), repeat(bucket(3, 4), 32), buckets(t, "4", "6")},
		{append(repeat(bucket(3, 2), 31), bucket(1, 2)), staircase(32, 1, 0), raised(staircase(32, 1, 0), 1, 2)},
		{append(staircase(2, 1, 0), repeat(bucket(9, 9), 30)...), append(repeat(bucket(99, 99), 16), staircase(16, 2, 0)...), normal(sums(staircase(2, 1, 0), staircase(16, 2, 0)))},
	} {
		if s, e := curve.Sum(x.a, x.b); !slices.Equal(s, x.want) || e != api.OK {
			t.Error(i, s, e)
		}
	}
}

func raised(c api.Curve, burst, rate int) api.Curve { return sums(c, api.Curve{bucket(burst, rate)}) }

// sums are the sums of each bucket of a and each bucket of b, for whole numbers.
func sums(a, b api.Curve) api.Curve {
	var l api.Curve
	for _, x := range a {
		for _, y := range b {
			l = append(l, bucket(x.Burst.N+y.Burst.N, x.Rate.N+y.Rate.N))
		}
	}
	return l
}

func TestSumErrors(t *testing.T) {
	for i, x := range []struct {
		a, b api.Curve
		want api.Errno
	}{
		{staircase(32, 1, 0), staircase(2, 1, 0), api.ErrMany},
		{staircase(2, 1, 0), staircase(32, 1, 0), api.ErrMany},
		{staircase(3, 1, 0), staircase(11, 1, 0), api.ErrMany},
		{staircase(32, 1, 0), staircase(32, 1, 0), api.ErrMany},
		// 36 sums are too many, though their normal form has only 11 buckets.
		{staircase(6, 1, 0), staircase(6, 1, 0), api.ErrMany},
		// So they are if they could not be computed.
		{staircase(6, 1, top-5), staircase(6, 1, top-5), api.ErrMany},
		{staircase(4, 1, top-3), staircase(8, 1, 0), api.ErrLong},
		{buckets(t, "1073741824", "0"), buckets(t, "0", "1073741824"), api.OK},
		{buckets(t, "1073741824", "0"), buckets(t, "1", "0"), api.ErrLong},
		{buckets(t, "0", "1"), buckets(t, "0", "1073741824"), api.ErrLong},
		{buckets(t, "1/32768", "0"), buckets(t, "1/32769", "0"), api.ErrLong},
		{buckets(t, "0", "1/32768"), buckets(t, "0", "1/32769"), api.ErrLong},
		// One sum that is too large suffices.
		{buckets(t, "0", "1", "1073741824", "0"), buckets(t, "0", "1", "1", "0"), api.ErrLong},
		{buckets(t, "0", "1", "1", "0"), buckets(t, "0", "1073741824", "1", "0"), api.ErrLong},
		// Buckets that are dominated are not added.
		{buckets(t, "0", "1", "1073741824", "1"), buckets(t, "1", "1073741824", "1", "1"), api.OK},
		// Sums that would be dominated are computed.
		{buckets(t, "0", "4", "1/32768", "3"), buckets(t, "0", "2", "1/32769", "0"), api.ErrLong},
	} {
		if s, e := curve.Sum(x.a, x.b); e != x.want || e != api.OK && len(s) != 0 {
			t.Error(i, s, e)
		}
	}
}

// P2.3: Min

func TestMin(t *testing.T) {
	even, odd := alternate(staircase(32, 1, 0))
	for i, x := range []struct{ a, b, want api.Curve }{
		{buckets(t, "1", "4", "5", "2"), buckets(t, "4", "3", "0", "9", "6", "2"), buckets(t, "0", "9", "1", "4", "4", "3", "5", "2")},
		{buckets(t, "1", "1"), buckets(t, "2", "2"), buckets(t, "1", "1")},
		{buckets(t, "2", "2"), buckets(t, "1", "1"), buckets(t, "1", "1")},
		{buckets(t, "1", "1"), buckets(t, "1", "1"), buckets(t, "1", "1")},
		{buckets(t, "1", "2"), buckets(t, "2", "1"), buckets(t, "1", "2", "2", "1")},
		{even, odd, staircase(32, 1, 0)},
		// 64 buckets whose normal form is within the limit.
		{staircase(32, 1, 0), staircase(32, 1, 0), staircase(32, 1, 0)},
		{staircase(32, 1, 0), repeat(bucket(0, 0), 32), buckets(t, "0", "0")},
		// Nothing is computed, so nothing is too large.
		{buckets(t, "1073741824", "1/1073741824"), buckets(t, "1/1073741824", "1073741824"), buckets(t, "1/1073741824", "1073741824", "1073741824", "1/1073741824")},
	} {
		if s, e := curve.Min(x.a, x.b); !slices.Equal(s, x.want) || e != api.OK {
			t.Error(i, s, e)
		}
	}
}

// alternate deals the buckets of c to two curves.
func alternate(c api.Curve) (even, odd api.Curve) {
	for i, b := range c {
		if i%2 == 0 {
			even = append(even, b)
		} else {
			odd = append(odd, b)
		}
	}
	return even, odd
}

func TestMinMany(t *testing.T) {
	for n := 31; n <= 64; n++ {
		c := staircase(n, 3, 1)
		even, odd := alternate(c)
		want, wantE := c, api.OK
		if n > api.MaxPieces {
			want, wantE = nil, api.ErrMany
		}
		if s, e := curve.Min(odd, even); !slices.Equal(s, want) || e != wantE {
			t.Error(n, s, e)
		}
	}
}

// P2.3: Shift

func TestShift(t *testing.T) {
	for i, x := range []struct {
		c    api.Curve
		by   string
		want api.Curve
	}{
		{buckets(t, "10", "2", "30", "1/2", "40", "1"), "5", buckets(t, "20", "2", "65/2", "1/2")},
		{buckets(t, "10", "2", "30", "1/2", "40", "1"), "0", buckets(t, "10", "2", "30", "1/2")},
		{buckets(t, "1", "4", "5", "2"), "3/2", buckets(t, "7", "4", "8", "2")},
		// At and after the breakpoint only the last bucket is left.
		{buckets(t, "1", "4", "5", "2"), "2", buckets(t, "9", "2")},
		{buckets(t, "1", "4", "5", "2"), "3", buckets(t, "11", "2")},
		{buckets(t, "7", "0"), "1073741824", buckets(t, "7", "0")},
		{buckets(t, "0", "1"), "1073741824", buckets(t, "1073741824", "1")},
		{repeat(bucket(1, 2), 32), "4", buckets(t, "9", "2")},
		{staircase(32, 5, 0), "5", buckets(t, "155", "0")},
		{reversed(staircase(32, 5, 0)), "0", staircase(32, 5, 0)},
	} {
		if s, e := curve.Shift(x.c, number(t, x.by)); !slices.Equal(s, x.want) || e != api.OK {
			t.Error(i, s, e)
		}
	}
}

func TestShiftLong(t *testing.T) {
	for i, x := range []struct {
		c  api.Curve
		by string
	}{
		{buckets(t, "0", "2"), "1073741824"},
		{buckets(t, "1", "1"), "1073741824"},
		{buckets(t, "0", "1/2"), "1/1073741824"},
		{buckets(t, "1073741824", "1"), "1/2"},
		// The sum would fit, but the product does not.
		{buckets(t, "1/3", "1/3"), "1/536870912"},
		// Dominated buckets are moved, too, and so are those that the move makes so.
		{buckets(t, "0", "0", "1", "1073741824"), "1"},
		{buckets(t, "0", "1073741824", "1", "1"), "2"},
		{buckets(t, "5", "1", "3", "2", "1073741824", "2"), "1"},
	} {
		if s, e := curve.Shift(x.c, number(t, x.by)); len(s) != 0 || e != api.ErrLong {
			t.Error(i, s, e)
		}
	}
}

// P2.1 to P2.3, against a model in numbers of any size

// fit is a number of package big as the result of one computation.
func fit(v *big.Rat) (api.Rat, bool) {
	limit := big.NewInt(top)
	if v.Num().CmpAbs(limit) > 0 || v.Denom().Cmp(limit) > 0 {
		return api.Rat{}, false
	}
	return api.Rat{N: int(v.Num().Int64()), D: int(v.Denom().Int64())}, true
}

// model computes with numbers that fit, and notes whether one did not.
type model struct{ long bool }

func (m *model) do(op func(z, x, y *big.Rat) *big.Rat, x, y api.Rat) api.Rat {
	if m.long {
		return api.Rat{}
	}
	z, ok := fit(op(new(big.Rat), value(x), value(y)))
	m.long = !ok
	return z
}

func (m *model) at(c api.Curve, t api.Rat) []api.Rat {
	var l []api.Rat
	for _, b := range c {
		l = append(l, m.do((*big.Rat).Add, b.Burst, m.do((*big.Rat).Mul, b.Rate, t)))
	}
	return l
}

func (m *model) breaks(c api.Curve) []api.Rat {
	var l []api.Rat
	n := normal(c)
	for i, x := range n {
		for _, y := range n[:i] {
			up, down := m.do((*big.Rat).Sub, x.Burst, y.Burst), m.do((*big.Rat).Sub, y.Rate, x.Rate)
			if !m.long {
				l = append(l, m.do((*big.Rat).Quo, up, down))
			}
		}
	}
	slices.SortFunc(l, func(x, y api.Rat) int { return value(x).Cmp(value(y)) })
	return slices.Compact(l)
}

func (m *model) sum(a, b api.Curve) api.Curve {
	var l api.Curve
	for _, x := range normal(a) {
		for _, y := range normal(b) {
			l = append(l, api.Bucket{Burst: m.do((*big.Rat).Add, x.Burst, y.Burst), Rate: m.do((*big.Rat).Add, x.Rate, y.Rate)})
		}
	}
	return l
}

// someNumber is small, or close to a limit.
func someNumber(r *rand.Rand) api.Rat {
	n, d := r.Intn(9), 1+r.Intn(6)
	switch r.Intn(12) {
	case 0:
		n = top - r.Intn(3)
	case 1:
		d = top - r.Intn(3)
	case 2:
		n, d = r.Intn(1<<15), 1+r.Intn(1<<15)
	}
	x, _ := fit(big.NewRat(int64(n), int64(d)))
	return x
}

// someCurve has few dominated buckets half of the time, since its rates fall then.
func someCurve(r *rand.Rand) api.Curve {
	sizes := []int{1, 2, 3, 4, 6, 8}
	bursts := someNumbers(r, sizes[r.Intn(len(sizes))])
	rates := someNumbers(r, len(bursts))
	if r.Intn(2) == 0 {
		slices.SortFunc(bursts, rat.Cmp)
		slices.SortFunc(rates, func(x, y api.Rat) int { return rat.Cmp(y, x) })
	}
	var c api.Curve
	for i := range bursts {
		c = append(c, api.Bucket{Burst: bursts[i], Rate: rates[i]})
	}
	return c
}

func someNumbers(r *rand.Rand, n int) []api.Rat {
	var l []api.Rat
	for range n {
		l = append(l, someNumber(r))
	}
	return l
}

func TestModel(t *testing.T) {
	r := rand.New(rand.NewSource(2))
	seen := map[api.Errno]int{}
	for range 20000 {
		a, b, at := someCurve(r), someCurve(r), someNumber(r)
		for _, e := range []api.Errno{modelAt(t, a, at), modelBreaks(t, a), modelSum(t, a, b), modelMin(t, a, b)} {
			seen[e]++
		}
	}
	if seen[api.OK] < 1000 || seen[api.ErrLong] < 1000 || seen[api.ErrMany] < 10 {
		t.Error("the samples are too much alike", seen)
	}
}

// modelAt compares At, Shift, Norm and Rate with the model.
func modelAt(t *testing.T, c api.Curve, at api.Rat) api.Errno {
	t.Helper()
	var m model
	values := m.at(c, at)
	want, moved, wantE := api.Rat{}, api.Curve(nil), api.ErrLong
	if !m.long {
		moved, wantE = slices.Clone(c), api.OK
		for i := range moved {
			moved[i].Burst = values[i]
		}
		want = slices.MinFunc(values, func(x, y api.Rat) int { return value(x).Cmp(value(y)) })
	}
	if v, e := curve.At(c, at); v != want || e != wantE {
		t.Error("At", c, at, v, e)
	}
	if s, e := curve.Shift(c, at); !slices.Equal(s, normal(moved)) || e != wantE {
		t.Error("Shift", c, at, s, e)
	}
	if n, e := curve.Norm(c); !slices.Equal(n, normal(c)) || e != api.OK {
		t.Error("Norm", c, n, e)
	}
	slowest := slices.MinFunc(c, func(x, y api.Bucket) int { return value(x.Rate).Cmp(value(y.Rate)) })
	if x, e := curve.Rate(c); x != slowest.Rate || e != api.OK {
		t.Error("Rate", c, x, e)
	}
	return wantE
}

func modelBreaks(t *testing.T, c api.Curve) api.Errno {
	t.Helper()
	var m model
	want, wantE := m.breaks(c), api.OK
	if m.long {
		want, wantE = nil, api.ErrLong
	}
	if l, e := curve.Breaks(c); !slices.Equal(l, want) || e != wantE {
		t.Error("Breaks", c, l, e)
	}
	return wantE
}

func modelSum(t *testing.T, a, b api.Curve) api.Errno {
	t.Helper()
	var m model
	list := m.sum(a, b)
	var want api.Curve
	wantE := api.OK
	switch {
	case len(list) > api.MaxPieces:
		wantE = api.ErrMany
	case m.long:
		wantE = api.ErrLong
	default:
		want = normal(list)
	}
	if s, e := curve.Sum(a, b); !slices.Equal(s, want) || e != wantE {
		t.Error("Sum", a, b, s, e)
	}
	return wantE
}

func modelMin(t *testing.T, a, b api.Curve) api.Errno {
	t.Helper()
	if s, e := curve.Min(a, b); !slices.Equal(s, normal(slices.Concat(a, b))) || e != api.OK {
		t.Error("Min", a, b, s, e)
	}
	return api.OK
}

// P2.4

// at is the value of a curve that has one.
func at(t *testing.T, c api.Curve, x api.Rat) api.Rat {
	t.Helper()
	v, e := curve.At(c, x)
	if e != api.OK {
		t.Fatal(c, x, e)
	}
	return v
}

func plus(t *testing.T, x, y api.Rat) api.Rat {
	t.Helper()
	z, e := rat.Add(x, y)
	if e != api.OK {
		t.Fatal(x, y, e)
	}
	return z
}

// points are times around the breakpoints of the small curves.
func points() []api.Rat {
	return []api.Rat{{N: 0, D: 1}, {N: 1, D: 3}, {N: 1, D: 2}, {N: 1, D: 1}, {N: 3, D: 2}, {N: 2, D: 1}, {N: 7, D: 1}}
}

func TestValuesOfPairs(t *testing.T) {
	everyCurve(2, func(a api.Curve) {
		everyCurve(2, func(b api.Curve) {
			sum, e := curve.Sum(a, b)
			least, f := curve.Min(a, b)
			if e != api.OK || f != api.OK {
				t.Fatal(a, b, e, f)
			}
			for _, x := range points() {
				u, v := at(t, a, x), at(t, b, x)
				if at(t, sum, x) != plus(t, u, v) {
					t.Error("sum", a, b, x)
				}
				if rat.Cmp(u, v) > 0 {
					u = v
				}
				if at(t, least, x) != u {
					t.Error("minimum", a, b, x)
				}
			}
		})
	})
}

func TestValuesOfCurves(t *testing.T) {
	everyCurve(3, func(c api.Curve) {
		n, e := curve.Norm(c)
		if e != api.OK {
			t.Fatal(c, e)
		}
		for _, x := range points() {
			if at(t, n, x) != at(t, c, x) {
				t.Error("normal form", c, x)
			}
			s, e := curve.Shift(c, x)
			if e != api.OK {
				t.Fatal(c, x, e)
			}
			for _, y := range points() {
				if at(t, s, y) != at(t, c, plus(t, x, y)) {
					t.Error("shift", c, x, y)
				}
			}
		}
	})
}

// TestConcave takes steps of equal length: values do not fall, and their increases do not grow.
func TestConcave(t *testing.T) {
	everyCurve(3, func(c api.Curve) {
		for i := range 12 {
			x, y, z := at(t, c, half(i)), at(t, c, half(i+1)), at(t, c, half(i+2))
			if rat.Cmp(x, y) > 0 || rat.Cmp(plus(t, x, z), plus(t, y, y)) > 0 {
				t.Error(c, i, x, y, z)
			}
		}
	})
}

func half(n int) api.Rat {
	x, _ := rat.Make(n, 2)
	return x
}

// TestPieces finds, for the time before the first breakpoint, between two breakpoints and after the last one, a bucket that determines the value.
func TestPieces(t *testing.T) {
	check := func(c api.Curve) {
		breaks, e := curve.Breaks(c)
		n, f := curve.Norm(c)
		if e != api.OK || f != api.OK {
			t.Fatal(c, e, f)
		}
		ends := slices.Concat([]api.Rat{whole(0)}, breaks, []api.Rat{whole(1000)})
		for i := range len(ends) - 1 {
			middle, e := rat.Div(plus(t, ends[i], ends[i+1]), whole(2))
			if e != api.OK {
				t.Fatal(c, e)
			}
			rules := func(b api.Bucket) bool {
				one := api.Curve{b}
				return at(t, one, ends[i]) == at(t, c, ends[i]) && at(t, one, middle) == at(t, c, middle) && at(t, one, ends[i+1]) == at(t, c, ends[i+1])
			}
			if !slices.ContainsFunc(n, rules) {
				t.Error(c, ends[i], ends[i+1])
			}
		}
	}
	everyCurve(3, check)
	check(buckets(t, "8", "3", "20", "1", "0", "7", "20", "1", "25", "1/2", "21", "2"))
	check(buckets(t, "10", "2", "30", "1/2", "40", "1"))
	check(staircase(32, 7, 0))
}

// R1, R2, R7

// TestArbitrary gives arbitrary contents to every function: none panics, and each error comes with no result.
func TestArbitrary(t *testing.T) {
	r := rand.New(rand.NewSource(7))
	l := []int{math.MinInt, math.MinInt + 1, -1 << 32, -top - 1, -top, -1, 0, 1, 2, 3, 6, top - 1, top, top + 1, 1 << 32, math.MaxInt}
	anyNumber := func() api.Rat { return api.Rat{N: l[r.Intn(len(l))], D: l[r.Intn(len(l))]} }
	anyCurve := func() api.Curve {
		var c api.Curve
		for range r.Intn(3) {
			c = append(c, api.Bucket{Burst: anyNumber(), Rate: anyNumber()})
		}
		return c
	}
	for range 50000 {
		a, b, x := anyCurve(), anyCurve(), anyNumber()
		s, e := curve.Sum(a, b)
		arbitrary(t, e, len(s) > 0, curve.Valid(a) && curve.Valid(b))
		s, e = curve.Min(a, b)
		arbitrary(t, e, len(s) > 0, curve.Valid(a) && curve.Valid(b))
		s, e = curve.Shift(a, x)
		arbitrary(t, e, len(s) > 0, curve.Valid(a) && rat.Valid(x) && x.N >= 0)
		s, e = curve.Norm(a)
		arbitrary(t, e, len(s) > 0, curve.Valid(a))
		v, e := curve.At(a, x)
		arbitrary(t, e, v != api.Rat{}, curve.Valid(a) && rat.Valid(x) && x.N >= 0)
		v, e = curve.Rate(a)
		arbitrary(t, e, v != api.Rat{}, curve.Valid(a))
		if p, e := curve.Breaks(a); (e == api.ErrArg) == curve.Valid(a) || e != api.OK && len(p) > 0 {
			t.Error(a, p, e)
		}
	}
}

func arbitrary(t *testing.T, e api.Errno, result, valid bool) {
	t.Helper()
	if (e == api.OK) != result || (e == api.ErrArg) == valid {
		t.Error(e, result, valid)
	}
}

// R3

// spare returns a curve like c with buckets in its spare capacity, and all the memory that it has.
func spare(c api.Curve) (short, all api.Curve) {
	all = slices.Concat(c, repeat(bucket(77, 88), 70))
	return all[:len(c)], all
}

// TestArguments checks that nothing is written to arguments or behind them, and that results are memory of their own.
func TestArguments(t *testing.T) {
	for _, c := range []api.Curve{staircase(5, 3, 1), reversed(staircase(5, 3, 1)), repeat(bucket(4, 4), 6), {bucket(1, 2)}, {bucket(9, 9), bucket(1, 1), bucket(1, 1), bucket(0, 3)}} {
		a, allA := spare(c)
		b, allB := spare(slices.Concat(c, c))
		keptA, keptB := slices.Clone(allA), slices.Clone(allB)
		for name, call := range map[string]func() (api.Curve, api.Errno){
			"Norm":  func() (api.Curve, api.Errno) { return curve.Norm(a) },
			"Sum":   func() (api.Curve, api.Errno) { return curve.Sum(a, b) },
			"Min":   func() (api.Curve, api.Errno) { return curve.Min(a, b) },
			"Same":  func() (api.Curve, api.Errno) { return curve.Min(a, a) },
			"Shift": func() (api.Curve, api.Errno) { return curve.Shift(a, whole(0)) },
		} {
			first, e := call()
			want := slices.Clone(first)
			scribble(first)
			if second, f := call(); !slices.Equal(second, want) || e != f {
				t.Error(name, c, second, want)
			}
			if !slices.Equal(allA, keptA) || !slices.Equal(allB, keptB) {
				t.Fatal(name, c, allA, allB)
			}
		}
		first, _ := curve.Breaks(a)
		want := slices.Clone(first)
		clear(first[:cap(first)])
		if second, _ := curve.Breaks(a); !slices.Equal(second, want) {
			t.Error("Breaks", c, second, want)
		}
		curve.Valid(a)
		curve.At(a, whole(3))
		curve.Rate(a)
		if !slices.Equal(allA, keptA) || !slices.Equal(allB, keptB) {
			t.Error(c, allA, allB)
		}
	}
}

// scribble writes over a result and its spare capacity.
func scribble(c api.Curve) { clear(c[:cap(c)]) }

// R4

// TestRepeated compares results of many calls at the same time with those of the same calls one after the other.
func TestRepeated(t *testing.T) {
	shared := slices.Concat(staircase(5, 3, 1), repeat(bucket(4, 4), 6))
	run := func() []api.Rat {
		var out []api.Rat
		for i := range 50 {
			n, _ := curve.Norm(shared)
			sum, _ := curve.Sum(shared, api.Curve{bucket(i, i)})
			least, _ := curve.Min(sum, shared)
			moved, _ := curve.Shift(least, half(i))
			points, _ := curve.Breaks(shared)
			v, _ := curve.At(shared, half(i))
			r, _ := curve.Rate(moved)
			out = append(append(out, v, r), points...)
			for _, b := range slices.Concat(n, sum, least, moved) {
				out = append(out, b.Burst, b.Rate)
			}
		}
		return out
	}
	want := run()
	var all sync.WaitGroup
	for range 4 {
		all.Go(func() {
			if !slices.Equal(run(), want) {
				t.Error("results differ")
			}
		})
	}
	all.Wait()
}

// R5

// TestEmpty: an empty curve and a nil one are equally invalid; an empty list of breakpoints is a result.
func TestEmpty(t *testing.T) {
	for _, empty := range []api.Curve{nil, {}, make(api.Curve, 0, 9)} {
		one := api.Curve{bucket(1, 1)}
		noCurve(t, 0, "Norm")(curve.Norm(empty))
		noCurve(t, 0, "Sum")(curve.Sum(one, empty))
		noCurve(t, 0, "Min")(curve.Min(empty, one))
		noCurve(t, 0, "Shift")(curve.Shift(empty, whole(1)))
		noNumber(t, 0, "At")(curve.At(empty, whole(1)))
		noNumber(t, 0, "Rate")(curve.Rate(empty))
		if curve.Valid(empty) {
			t.Error("valid")
		}
		if l, e := curve.Breaks(empty); len(l) != 0 || e != api.ErrArg {
			t.Error(l, e)
		}
	}
}
