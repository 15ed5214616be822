package calculus_test

import (
	"math"
	"math/rand"
	"slices"
	"testing"

	"nacelle/api"
	"nacelle/calculus"
	"nacelle/curve"
	"nacelle/rat"
)

// badFrames are too many frames, or have one that is wrong or not in order.
func badFrames() [][]api.Sent {
	l := [][]api.Sent{steady(4001, 0, 1), steady(4001, 1, 1), make([]api.Sent, 5000), {{}}}
	for _, size := range []int{0, -1, 73, 74, 1 << 30, 1 << 32, math.MinInt, math.MaxInt} {
		l = append(l, sent(5, size), sent(5, 1, 5, size), sent(5, size, 5, 1), sent(0, 1, 1, 1, 2, size, 3, 1))
	}
	for _, time := range []int{-1, 1<<30 + 1, 1 << 32, math.MinInt, math.MaxInt} {
		l = append(l, sent(time, 1), sent(time, 1, time, 1), sent(3, 1, time, 1), sent(time, 1, 3, 1), sent(0, 1, 3, 1, time, 1, 4, 1))
	}
	return append(l, sent(1, 1, 0, 1), sent(0, 1, 5, 1, 4, 1), sent(1<<30, 1, 0, 1), sent(0, 1, 9, 1, 3, 1, 9, 1))
}

// P3.3: Conforms

func TestConforms(t *testing.T) {
	for i, x := range []struct {
		c    string
		l    []api.Sent
		want bool
	}{
		{"10 4", sent(0, 10, 3, 10), true},
		{"10 3", sent(0, 10, 3, 10), false},
		{"0 0", nil, true},
		{"0 0", sent(7, 1), false},
		{"0 1073741824", sent(0, 1), false},
		{"72 0", sent(1<<30, 72), true},
		{"71 0", sent(1<<30, 72), false},
		{"1/2 1", sent(0, 1), false},
		{"3/2 0", sent(0, 1), true},
		{"1073741823/1073741824 0", sent(0, 1), false},
		{"1 0", sent(0, 1, 1<<30, 1), false},
		// Just enough, and not quite.
		{"5 1/3", sent(0, 5, 3, 1), true},
		{"5 1/3", sent(0, 5, 2, 1), false},
		{"5 1/3", sent(1, 5, 4, 1, 7, 1, 10, 1), true},
		{"5 1/3", sent(1, 5, 4, 1, 7, 1, 9, 1), false},
		{"11/2 1/3", sent(0, 5, 2, 1), true},
		{"16/3 1/3", sent(0, 5, 2, 1), true},
		{"5 3/7", sent(0, 5, 7, 3), true},
		{"5 3/8", sent(0, 5, 7, 3), false},
		// Frames at one time.
		{"20 9", sent(5, 10, 5, 10), true},
		{"19 9", sent(5, 10, 5, 10), false},
		{"20 9", sent(5, 10, 5, 10, 5, 1), false},
		{"20 1", sent(5, 10, 5, 10, 6, 1, 6, 1), false},
		{"20 2", sent(5, 10, 5, 10, 6, 1, 6, 1), true},
		// Frames that do not follow each other, and frames that are not the first ones.
		{"10 1", sent(0, 5, 1, 5, 2, 5), false},
		{"13 1", sent(0, 5, 1, 5, 2, 5), true},
		{"10 1", sent(0, 1, 100, 5, 101, 5, 102, 5), false},
		{"10 1", sent(0, 10, 10, 10, 20, 10, 29, 10), false},
		{"10 1", sent(0, 10, 10, 10, 20, 10, 30, 10), true},
		{"10 1", sent(0, 1, 1000, 10, 1000, 1), false},
		// What is not used before does not make room for more.
		{"10 1", sent(0, 1, 1<<29, 11), false},
		// Each bucket, wherever it is.
		{"20 1/10, 5 1", sent(3, 5, 4, 1), true},
		{"20 1/10, 5 1", sent(3, 5, 3, 1), false},
		{"20 1/10, 5 1", sent(0, 5, 5, 5, 10, 5, 15, 5), true},
		{"20 1/10, 5 1", sent(0, 5, 5, 5, 10, 5, 15, 5, 20, 5), false},
		{"5 1, 20 1/10", sent(0, 5, 5, 5, 10, 5, 15, 5, 20, 5), false},
		{"5 1, 20 1/10, 0 9", sent(0, 1), false},
		{"9 9, 0 9, 9 9", sent(0, 1), false},
	} {
		if ok, e := calculus.Conforms(arrival(x.c), x.l); ok != x.want || e != api.OK {
			t.Error(i, x, ok, e)
		}
	}
}

func TestConformsInvalid(t *testing.T) {
	for i, x := range []struct {
		curves []api.Curve
		frames [][]api.Sent
	}{
		{badCurves(), [][]api.Sent{nil, sent(0, 1), sent(0, 1, 1<<30, 1)}},
		{arrivals("72 72", "0 0", "1073741824 1"), badFrames()},
		{badCurves(), badFrames()},
	} {
		for _, c := range x.curves {
			for _, l := range x.frames {
				if ok, e := calculus.Conforms(c, l); ok || e != api.ErrArg {
					t.Error(i, c, len(l), ok, e)
				}
			}
		}
	}
}

func TestConformsLong(t *testing.T) {
	for i, x := range []struct {
		c    string
		l    []api.Sent
		want api.Errno
	}{
		{"1073741824 1", nil, api.OK},
		{"1073741824 1", sent(9, 1, 9, 1), api.OK},
		{"1073741824 1", sent(9, 1, 10, 1), api.ErrLong},
		{"1073741824 0", sent(0, 1, 1<<30, 1), api.OK},
		{"72 1", sent(0, 1, 1<<30-72, 1), api.OK},
		{"72 1", sent(0, 1, 1<<30-71, 1), api.ErrLong},
		{"0 2", sent(0, 1, 1<<29, 1), api.OK},
		{"0 2", sent(0, 1, 1<<29+1, 1), api.ErrLong},
		// The sum has too large a denominator, but not at a time that cancels it.
		{"1/32769 1/32768", sent(0, 1, 5, 1), api.ErrLong},
		{"1/32769 1/32768", sent(0, 1, 32768, 1), api.OK},
		{"1/32769 1/32768", sent(3, 1, 32771, 1, 65539, 1), api.OK},
		// Only the product is too large.
		{"2/3 1073741824/3", sent(0, 1, 1, 1), api.OK},
		{"1/3 1073741824/3", sent(0, 1, 2, 1), api.ErrLong},
		// A greater difference may be harmless.
		{"1073741823 1/2", sent(0, 1, 2, 1), api.OK},
		{"1073741823 1/2", sent(0, 1, 1, 1), api.ErrLong},
		{"1073741823 1/2", sent(0, 1, 1, 1, 2, 1), api.ErrLong},
		{"1073741814 1/4", sent(0, 1, 8, 1, 40, 1), api.OK},
		{"1073741814 1/4", sent(0, 1, 8, 1, 40, 1, 44, 1), api.ErrLong},
		{"1073741814 1/4", sent(0, 1, 8, 1, 39, 1), api.ErrLong},
		// A difference of 4 is too large, 1, 2, 3 and 6 are not. It is one of the second and the last of four frames.
		{"0 536870912/3", sent(0, 1, 2, 1, 3, 1), api.OK},
		{"0 536870912/3", sent(0, 1, 3, 1, 6, 1), api.OK},
		{"0 536870912/3", sent(0, 1, 2, 1, 3, 1, 6, 1), api.ErrLong},
		// Every bucket counts, also one that is dominated or comes last.
		{"0 0, 1073741824 1", sent(0, 1, 1, 1), api.ErrLong},
		{"1073741824 1, 0 0", sent(0, 1, 1, 1), api.ErrLong},
		{"5 1, 7 1, 1/32769 1/32768, 8 8", sent(0, 1, 1, 1), api.ErrLong},
		{"5 1, 7 1, 1/32769 1/32768, 8 8", sent(0, 1, 32768, 1), api.OK},
		// Frames that do not conform do not hide it, nor does one at the same time.
		{"0 1073741824", sent(0, 1, 1, 1, 2, 1), api.ErrLong},
		{"0 1073741824", sent(0, 1, 0, 1, 1, 1), api.OK},
		{"0 1073741824", sent(0, 1, 0, 1, 1, 1, 1, 1, 2, 1, 2, 1), api.ErrLong},
	} {
		if ok, e := calculus.Conforms(arrival(x.c), x.l); e != x.want || e != api.OK && ok {
			t.Error(i, x, ok, e)
		}
	}
}

// literally is Conforms as the chapter defines it.
func literally(c api.Curve, l []api.Sent) (bool, api.Errno) {
	conform := true
	for i := range l {
		size := 0
		for j := i; j < len(l); j++ {
			size += l[j].Size
			v, e := curve.At(c, api.Rat{N: l[j].Time - l[i].Time, D: 1})
			if e != api.OK {
				return false, e
			}
			conform = conform && size <= rat.Floor(v)
		}
	}
	return conform, api.OK
}

// someFrames has times of which many differences have a common factor.
func someFrames(r *rand.Rand) []api.Sent {
	steps := []int{0, 1, 2, 3, 5, 6, 12, 60, 1 << 15}
	large := []int{1, 1, 1, 1, 5000, 1 << 14}[r.Intn(6)]
	steps = steps[:2+r.Intn(len(steps)-1)]
	size := 1 + r.Intn(72)
	var l []api.Sent
	now := r.Intn(1000)
	for range r.Intn(12) {
		now += steps[r.Intn(len(steps))] * large
		if now <= api.MaxTime {
			l = append(l, api.Sent{Time: now, VL: r.Int(), Size: 1 + r.Intn(size)})
		}
	}
	return l
}

// someBuckets has large bursts, and rates whose denominators are likely to cancel.
func someBuckets(r *rand.Rand) api.Curve {
	var c api.Curve
	for range 1 + r.Intn(3) {
		burst, _ := rat.Make(r.Intn(200), 1+r.Intn(3))
		if r.Intn(6) == 0 {
			burst = api.Rat{N: top - r.Intn(1<<uint(r.Intn(30))), D: 1}
		}
		rate, _ := rat.Make(r.Intn(20), []int{1, 1, 2, 3, 4, 6, 12, 5000, 1 << 15}[r.Intn(9)])
		c = append(c, api.Bucket{Burst: burst, Rate: rate})
	}
	return c
}

func TestConformsLiterally(t *testing.T) {
	r := rand.New(rand.NewSource(33))
	type result struct {
		ok bool
		e  api.Errno
	}
	seen := map[result]int{}
	for range 60000 {
		c, l := someBuckets(r), someFrames(r)
		want, wantE := literally(c, l)
		seen[result{want, wantE}]++
		if ok, e := calculus.Conforms(c, l); ok != want || e != wantE {
			t.Error(c, l, ok, e)
		}
	}
	for _, x := range []result{{true, api.OK}, {false, api.OK}, {false, api.ErrLong}} {
		if seen[x] < 5000 {
			t.Error("the samples are too much alike", seen)
		}
	}
}

// TestConformsMost has as many frames and buckets as there may be, with millions of different times between frames.
func TestConformsMost(t *testing.T) {
	var l []api.Sent
	for i := range 4000 {
		l = append(l, api.Sent{Time: i * i * 67, Size: 1})
	}
	c := slices.Repeat(arrival("4000 1/2"), 32)
	if ok, e := calculus.Conforms(c, l); !ok || e != api.OK {
		t.Error(ok, e)
	}
	c[31].Burst = num("1")
	if ok, e := calculus.Conforms(c, l); !ok || e != api.OK {
		t.Error(ok, e)
	}
	l[3999].Size = 72
	c[31].Rate = num("1/15000")
	if ok, e := calculus.Conforms(c, l); ok || e != api.OK {
		t.Error(ok, e)
	}
	c[31].Burst = num("1073741824")
	if ok, e := calculus.Conforms(c, l); ok || e != api.ErrLong {
		t.Error(ok, e)
	}
	if ok, e := calculus.Conforms(arrival("288000 0"), steady(4000, 0, 72)); !ok || e != api.OK {
		t.Error(ok, e)
	}
	if ok, e := calculus.Conforms(arrival("287999 0"), steady(4000, 0, 72)); ok || e != api.OK {
		t.Error(ok, e)
	}
}

// P3.4

func TestServe(t *testing.T) {
	for i, x := range []struct {
		l           []api.Sent
		slow, delay int
		want        []int
	}{
		{sent(0, 10, 3, 10), 2, 5, []int{25, 45}},
		{nil, 1, 0, nil},
		{nil, 16, 1000, nil},
		{sent(5, 10), 1, 0, []int{15}},
		{sent(0, 72), 16, 1000, []int{2152}},
		{sent(1<<30, 72), 16, 1000, []int{1<<30 + 2152}},
		// The delay passes for all frames at the same time, also while the link transmits.
		{sent(5, 10, 5, 3, 40, 1), 4, 16, []int{61, 73, 77}},
		{sent(0, 1, 0, 1, 0, 1), 3, 100, []int{103, 106, 109}},
		{sent(0, 1, 100, 1), 16, 1000, []int{1016, 1116}},
		// The link has just transmitted when the next frame is ready, is idle for a tick, or still transmits.
		{sent(0, 5, 10, 5), 2, 7, []int{17, 27}},
		{sent(0, 5, 11, 5), 2, 7, []int{17, 28}},
		{sent(0, 5, 9, 5), 2, 7, []int{17, 27}},
		{sent(0, 5, 9, 5, 20, 5, 31, 5, 32, 1), 2, 7, []int{17, 27, 37, 48, 50}},
		{sent(0, 72, 1, 1, 2, 1, 90, 2), 1, 0, []int{72, 73, 74, 92}},
		{sent(0, 1, 1<<30, 1, 1<<30, 2), 1, 1, []int{2, 1<<30 + 2, 1<<30 + 4}},
	} {
		if l, e := calculus.Serve(x.l, x.slow, x.delay); !slices.Equal(l, x.want) || e != api.OK {
			t.Error(i, l, e)
		}
	}
	l, e := calculus.Serve(steady(4000, 1, 72), 16, 1000)
	if e != api.OK || len(l) != 4000 {
		t.Fatal(len(l), e)
	}
	for i, end := range l {
		if end != 1000+(i+1)*1152 {
			t.Error(i, end)
		}
	}
}

func TestServeInvalid(t *testing.T) {
	wrong := func(what any, l []api.Sent, slow, delay int) {
		t.Helper()
		if ends, e := calculus.Serve(l, slow, delay); len(ends) != 0 || e != api.ErrArg {
			t.Error(what, slow, delay, len(ends), e)
		}
	}
	for i, l := range badFrames() {
		wrong(i, l, 1, 0)
		wrong(i, l, 16, 1000)
		wrong(i, l, 0, -1)
	}
	for _, l := range [][]api.Sent{nil, sent(0, 1), sent(0, 10, 3, 10)} {
		for _, slow := range []int{0, -1, 17, 18, 1 << 32, math.MinInt, math.MaxInt} {
			wrong(l, l, slow, 0)
			wrong(l, l, slow, 1000)
		}
		for _, delay := range []int{-1, -2, 1001, 1002, 1 << 32, math.MinInt, math.MaxInt} {
			wrong(l, l, 1, delay)
			wrong(l, l, 16, delay)
		}
	}
}

// TestServeTicks compares Serve with a link that looks at every tick for a frame to begin with.
func TestServeTicks(t *testing.T) {
	r := rand.New(rand.NewSource(34))
	for range 2000 {
		var l []api.Sent
		now := 0
		for range r.Intn(10) {
			now += r.Intn(1 + r.Intn(40))
			l = append(l, api.Sent{Time: now, Size: 1 + r.Intn(9)})
		}
		slow, delay := 1+r.Intn(5), r.Intn(30)
		ends, e := calculus.Serve(l, slow, delay)
		if want := ticking(l, slow, delay); !slices.Equal(ends, want) || e != api.OK {
			t.Error(l, slow, delay, ends, e)
		}
	}
}

func ticking(l []api.Sent, slow, delay int) []int {
	var ends []int
	busy := 0
	for now := 0; len(ends) < len(l); now++ {
		next := l[len(ends)]
		if now >= busy && now >= next.Time+delay {
			busy = now + slow*next.Size
			ends = append(ends, busy)
		}
	}
	return ends
}
