package calculus_test

import (
	"math"
	"math/big"
	"math/rand"
	"slices"
	"sync"
	"testing"

	"nacelle/api"
	"nacelle/calculus"
	"nacelle/rat"
)

// P3.5

// smallNumber is between 0 and 10, in quarters or in thirds of one.
func smallNumber(r *rand.Rand) api.Rat {
	x, _ := rat.Make(r.Intn(11), []int{1, 1, 3, 4}[r.Intn(4)])
	return x
}

// bounds returns both bounds, which must exist.
func bounds(t *testing.T, l []api.Curve, s api.Server) (delay, store *big.Rat) {
	t.Helper()
	d, e := calculus.Delay(l, s)
	b, f := calculus.Backlog(l, s)
	if e != api.OK || f != api.OK {
		t.Fatal(l, s, e, f)
	}
	return value(d), value(b)
}

// TestEveryTick looks for the greatest values not only at the points. The curves meet at 120 or before, since two rates differ by a twelfth at least.
func TestEveryTick(t *testing.T) {
	r := rand.New(rand.NewSource(35))
	for range 1000 {
		l := someCurves(r, smallNumber)
		s := someServer(r, l, smallNumber)
		if early(l, s) != api.OK {
			continue
		}
		var m model
		delay, store := bounds(t, l, s)
		late, stored := new(big.Rat), new(big.Rat)
		for n := range int64(125) {
			tick := big.NewRat(n, 1)
			late, stored = greater(late, m.late(l, s, tick)), greater(stored, m.stored(l, s, tick))
		}
		if late.Add(late, value(s.Latency)); delay.Cmp(late) != 0 || store.Cmp(stored) != 0 {
			t.Error(l, s, delay, store, late, stored)
		}
	}
}

func greater(x, y *big.Rat) *big.Rat {
	if x.Cmp(y) < 0 {
		return y
	}
	return x
}

// TestMonotonic changes one thing at a time so that the bounds cannot decrease.
func TestMonotonic(t *testing.T) {
	r := rand.New(rand.NewSource(36))
	more := func(x api.Rat) api.Rat {
		y, _ := rat.Add(x, smallNumber(r))
		return y
	}
	checked := 0
	for range 4000 {
		l := someCurves(r, smallNumber)
		s := someServer(r, l, smallNumber)
		worse, slower := someWorse(r, l, more), s
		if r.Intn(2) == 0 {
			slower.Latency = more(s.Latency)
		} else {
			s.Rate = more(s.Rate)
		}
		if early(l, s) != api.OK || early(worse, slower) != api.OK {
			continue
		}
		checked++
		delay, store := bounds(t, l, s)
		delay2, store2 := bounds(t, worse, slower)
		if delay.Cmp(delay2) > 0 || store.Cmp(store2) > 0 {
			t.Error(l, s, worse, slower, delay, store, delay2, store2)
		}
	}
	if checked < 1000 {
		t.Error("the samples are too much alike", checked)
	}
}

// someWorse returns curves like l of which one may have greater bursts or rates, or one more than l.
func someWorse(r *rand.Rand, l []api.Curve, more func(x api.Rat) api.Rat) []api.Curve {
	var worse []api.Curve
	for _, c := range l {
		worse = append(worse, slices.Clone(c))
	}
	if r.Intn(3) == 0 {
		return append(worse, api.Curve{{Burst: smallNumber(r), Rate: num("0")}})
	}
	if len(l) > 0 {
		c := worse[r.Intn(len(l))]
		b := &c[r.Intn(len(c))]
		if r.Intn(2) == 0 {
			b.Burst = more(b.Burst)
		} else {
			b.Rate = more(b.Rate)
		}
	}
	return worse
}

// TestWithin sends flows that conform over a link, and compares what happens with the bounds.
func TestWithin(t *testing.T) {
	r := rand.New(rand.NewSource(37))
	tight, frames := 0, 0
	for range 1500 {
		flows := someFlows(r)
		l := conforming(t, r, flows)
		slow, delay := 1+r.Intn(4), r.Intn(60)
		s := api.Server{Rate: api.Rat{N: 1, D: slow}, Latency: api.Rat{N: delay, D: 1}}
		if early(flows, s) != api.OK {
			continue
		}
		late, store := bounds(t, flows, s)
		ends, e := calculus.Serve(l, slow, delay)
		if e != api.OK || len(ends) != len(l) {
			t.Fatal(l, e)
		}
		for i, f := range l {
			took := big.NewRat(int64(ends[i]-f.Time), 1)
			held := big.NewRat(int64(waiting(l, ends, f.Time)-largest(l)), 1)
			if took.Cmp(late) > 0 || held.Cmp(store) > 0 {
				t.Error(flows, slow, delay, l, i, took, late, held, store)
			}
			if took.Cmp(late) == 0 {
				tight++
			}
		}
		frames += len(l)
	}
	if frames < 10000 || tight < 10 {
		t.Error("the samples are too much alike", frames, tight)
	}
}

// someFlows has curves with bursts that suffice for a frame, and rates that a link may serve.
func someFlows(r *rand.Rand) []api.Curve {
	var l []api.Curve
	for range 1 + r.Intn(3) {
		c := api.Curve{{Burst: api.Rat{N: 5 + r.Intn(40), D: 1}, Rate: api.Rat{N: 1, D: 4 + r.Intn(9)}}}
		if r.Intn(2) == 0 {
			c = append(c, api.Bucket{Burst: api.Rat{N: 5 + r.Intn(20), D: 1}, Rate: api.Rat{N: 1, D: 1 + r.Intn(3)}})
		}
		l = append(l, c)
	}
	return l
}

// conforming returns frames of the flows, as many and as large as these allow at some times, often from the beginning on.
func conforming(t *testing.T, r *rand.Rand, flows []api.Curve) []api.Sent {
	t.Helper()
	var all []api.Sent
	own := make([][]api.Sent, len(flows))
	now := 0
	for range 60 {
		i := r.Intn(len(flows))
		longer := append(slices.Clone(own[i]), api.Sent{Time: now, VL: i, Size: 1 + r.Intn(12)})
		ok, e := calculus.Conforms(flows[i], longer)
		if e != api.OK {
			t.Fatal(flows[i], longer, e)
		}
		if ok {
			own[i] = longer
			all = append(all, longer[len(longer)-1])
		} else if r.Intn(3) == 0 {
			now += r.Intn(9)
		}
	}
	return all
}

// waiting returns the bytes that have arrived and have not been transmitted.
func waiting(l []api.Sent, ends []int, now int) int {
	bytes := 0
	for i, f := range l {
		if f.Time <= now && ends[i] > now {
			bytes += f.Size
		}
	}
	return bytes
}

func largest(l []api.Sent) int {
	return slices.MaxFunc(l, func(x, y api.Sent) int { return x.Size - y.Size }).Size
}

// R1, R2, R7

// TestArbitrary gives arbitrary contents to every function: none panics, and each error comes with no result.
func TestArbitrary(t *testing.T) {
	r := rand.New(rand.NewSource(38))
	edges := []int{math.MinInt, math.MinInt + 1, -1 << 32, -top - 1, -top, -1, 0, 0, 1, 1, 1, 2, 3, 16, 72, 73, 1000, 1001, top - 1, top, top + 1, 1 << 32, math.MaxInt}
	edge := func() int { return edges[r.Intn(len(edges))] }
	anyNumber := func() api.Rat { return api.Rat{N: edge(), D: edge()} }
	for range 50000 {
		s, s2 := api.Server{Rate: anyNumber(), Latency: anyNumber()}, api.Server{Rate: anyNumber(), Latency: anyNumber()}
		var l []api.Curve
		for range r.Intn(3) {
			l = append(l, nil)
			for range r.Intn(3) {
				l[len(l)-1] = append(l[len(l)-1], api.Bucket{Burst: anyNumber(), Rate: anyNumber()})
			}
		}
		var sent []api.Sent
		for range r.Intn(3) {
			sent = append(sent, api.Sent{Time: edge(), VL: edge(), Size: edge()})
		}
		v, e := calculus.Delay(l, s)
		arbitrary(t, e, v == api.Rat{}, rat.Valid(v))
		v, e = calculus.Backlog(l, s)
		arbitrary(t, e, v == api.Rat{}, rat.Valid(v))
		chained, e := calculus.Chain(s, s2)
		arbitrary(t, e, chained == api.Server{}, calculus.Valid(chained))
		ends, e := calculus.Serve(sent, edge(), edge())
		arbitrary(t, e, len(ends) == 0, len(ends) == len(sent))
		ok, e := calculus.Conforms(append(l, nil)[0], sent)
		arbitrary(t, e, !ok, true)
	}
}

// arbitrary checks that a result is the zero value if there is an error, and a possible one if there is none.
func arbitrary(t *testing.T, e api.Errno, zero, possible bool) {
	t.Helper()
	if e != api.OK && !zero || e == api.OK && !possible {
		t.Error(e, zero, possible)
	}
}

// R3

// spare returns a list like l with other elements in its spare capacity, and all the memory that it has.
func spare[T any](l []T, other T) (short, all []T) {
	all = slices.Concat(l, slices.Repeat([]T{other}, 40))
	return all[:len(l)], all
}

// TestArguments checks that nothing is written to arguments or behind them, and that results are memory of their own.
func TestArguments(t *testing.T) {
	other := api.Bucket{Burst: num("77"), Rate: num("88")}
	c, allBuckets := spare(arrival("40 1, 100 1/2, 10 2, 40 1, 100 3"), other)
	l, allCurves := spare([]api.Curve{c, c, c[:2]}, api.Curve{other})
	frames, allFrames := spare(sent(0, 10, 3, 10, 3, 20, 100, 72, 1000, 1), api.Sent{Time: 5, VL: 5, Size: 5})
	keptBuckets, keptFrames := slices.Clone(allBuckets), slices.Clone(allFrames)
	keptCurves := make([]api.Curve, len(allCurves))
	for i, d := range allCurves {
		keptCurves[i] = slices.Clone(d)
	}
	for range 2 {
		calculus.Delay(l, server("2 5/2"))
		calculus.Backlog(l, server("2 5/2"))
		calculus.Conforms(c, frames)
		calculus.Conforms(arrival("1073741823 1/2"), frames)
		ends, _ := calculus.Serve(frames, 2, 5)
		if !slices.Equal(ends, []int{25, 45, 85, 249, 1007}) {
			t.Error(ends)
		}
		clear(ends[:cap(ends)])
		if !slices.Equal(allBuckets, keptBuckets) || !slices.Equal(allFrames, keptFrames) || !slices.EqualFunc(allCurves, keptCurves, slices.Equal[api.Curve]) {
			t.Fatal(allBuckets, allFrames, allCurves)
		}
	}
}

// R4

// TestRepeated compares results of many calls at the same time with those of the same calls one after the other.
func TestRepeated(t *testing.T) {
	l, frames := arrivals("40 1, 100 1/2, 10 2", "60 1/4"), sent(0, 10, 3, 10, 3, 20, 100, 72, 1000, 1)
	run := func() []any {
		var out []any
		for i := range 50 {
			s := api.Server{Rate: num("1"), Latency: api.Rat{N: i, D: 1}}
			delay, e := calculus.Delay(l, s)
			store, f := calculus.Backlog(l, s)
			chained, g := calculus.Chain(s, server("1/2 3"))
			ok, h := calculus.Conforms(l[i%2], frames[:i%6])
			out = append(out, delay, e, store, f, chained, g, ok, h, calculus.Valid(s))
			ends, _ := calculus.Serve(frames, 1+i%16, i)
			for _, end := range ends {
				out = append(out, end)
			}
		}
		return out
	}
	want := run()
	var all sync.WaitGroup
	for range 4 {
		all.Go(func() {
			if !slices.Equal(run(), want) {
				t.Error("results differ")
			}
		})
	}
	all.Wait()
}

// R5

// TestEmpty: lists without elements are alike, whether or not they are nil.
func TestEmpty(t *testing.T) {
	for _, l := range [][]api.Curve{nil, {}, make([]api.Curve, 0, 9)} {
		same(t, "Delay", "5/2", api.OK)(calculus.Delay(l, server("1 5/2")))
		same(t, "Backlog", "0", api.OK)(calculus.Backlog(l, server("1 5/2")))
	}
	for _, c := range []api.Curve{nil, {}, make(api.Curve, 0, 9)} {
		same(t, "Delay", "", api.ErrArg)(calculus.Delay([]api.Curve{c}, server("1 5/2")))
		same(t, "Backlog", "", api.ErrArg)(calculus.Backlog([]api.Curve{c}, server("1 5/2")))
		if ok, e := calculus.Conforms(c, nil); ok || e != api.ErrArg {
			t.Error(ok, e)
		}
	}
	for _, l := range [][]api.Sent{nil, {}, make([]api.Sent, 0, 9)} {
		if ok, e := calculus.Conforms(arrival("1073741824 1073741824"), l); !ok || e != api.OK {
			t.Error(ok, e)
		}
		if ends, e := calculus.Serve(l, 1, 0); len(ends) != 0 || e != api.OK {
			t.Error(ends, e)
		}
	}
}
