package calculus_test

import (
	"slices"
	"testing"

	"nacelle/api"
	"nacelle/calculus"
	"nacelle/curve"
)

// P3.1: Valid

func TestValid(t *testing.T) {
	for _, s := range []string{"1 0", "1/2 5/2", "1 16", "1073741824 1073741824", "1/1073741824 1/1073741824", "1073741823/1073741824 0", "1/16 1000"} {
		if !calculus.Valid(server(s)) {
			t.Error(s)
		}
	}
	for _, s := range badServers() {
		if calculus.Valid(s) {
			t.Error(s)
		}
	}
}

// P3.1, P3.2: Delay and Backlog

// question is about both bounds. Where an error is expected, the number is empty.
type question struct {
	l            []api.Curve
	s            string
	delay, store string
	e, f         api.Errno
}

func ask(t *testing.T, questions []question) {
	t.Helper()
	for i, q := range questions {
		same(t, i, q.delay, q.e)(calculus.Delay(q.l, server(q.s)))
		same(t, i, q.store, q.f)(calculus.Backlog(q.l, server(q.s)))
	}
}

func TestBounds(t *testing.T) {
	ask(t, []question{
		{l: nil, s: "1 0", delay: "0", store: "0"},
		{l: nil, s: "1/3 5/2", delay: "5/2", store: "0"},
		{l: arrivals("100 1/2", "60 1/4"), s: "1 16", delay: "176", store: "172"},
		{l: arrivals("100 1/2, 40 1", "60 1/4"), s: "1 16", delay: "146", store: "146"},
		{l: arrivals("0 0"), s: "1/16 1000", delay: "1000", store: "0"},
		{l: arrivals("5 0", "7 0"), s: "1/2 3", delay: "27", store: "12"},
		{l: arrivals("10 1"), s: "1 4", delay: "14", store: "14"},
		// The greatest value is at a breakpoint, with one curve or with two.
		{l: arrivals("0 3, 20 1"), s: "2 0", delay: "5", store: "10"},
		{l: arrivals("0 3, 20 1", "4 1, 12 0"), s: "2 0", delay: "11", store: "22"},
		{l: arrivals("0 5, 24 1", "0 4, 30 1"), s: "6 0", delay: "3", store: "18"},
		{l: arrivals("0 5, 24 1", "0 4, 30 1"), s: "4 0", delay: "17/2", store: "34"},
		// The latency is greater than all breakpoints.
		{l: arrivals("0 3, 20 1"), s: "2 100", delay: "105", store: "120"},
		// Sums of rates that the server just serves.
		{l: arrivals("1 1/2", "1 1/3"), s: "5/6 0", delay: "12/5", store: "2"},
		{l: arrivals("0 9, 1 1/2", "0 9, 1 1/3"), s: "5/6 2", delay: "22/5", store: "11/3"},
		// Only the least rate of a curve counts.
		{l: arrivals("0 1073741824, 5 0", "0 1000000, 5 0"), s: "1 0", delay: "9", store: "9"},
		// Limits of numbers.
		{l: arrivals("1073741824 0"), s: "1 0", delay: "1073741824", store: "1073741824"},
		{l: arrivals("1073741824 0"), s: "1073741824 0", delay: "1", store: "1073741824"},
		{l: nil, s: "1/1073741824 1073741824", delay: "1073741824", store: "0"},
		{l: arrivals("0 1/1073741824"), s: "1/1073741824 0", delay: "0", store: "0"},
	})
}

// TestWhole has breakpoints and latencies that are not whole, where the bounds are those of the whole points before or after.
func TestWhole(t *testing.T) {
	ask(t, []question{
		// The curves meet at 40/3, and the greatest value is at 13 or at 14.
		{l: arrivals("10 2, 30 1/2"), s: "3/2 0", delay: "11", store: "33/2"},
		{l: arrivals("10 2, 30 1/2"), s: "3/4 0", delay: "106/3", store: "53/2"},
		{l: arrivals("40 1, 30 1/2, 10 2"), s: "3/4 5/2", delay: "227/6", store: "227/8"},
		{l: arrivals("10 2, 30 1/2"), s: "3/2 5/2", delay: "27/2", store: "81/4"},
		// The greatest backlog is at the latency rounded down, or rounded up.
		{l: arrivals("10 1/4"), s: "2 5/2", delay: "15/2", store: "21/2"},
		{l: arrivals("10 1"), s: "1 5/2", delay: "25/2", store: "25/2"},
		{l: arrivals("10 1"), s: "5/4 5/2", delay: "21/2", store: "99/8"},
		{l: arrivals("0 1"), s: "1 1/2", delay: "1/2", store: "1/2"},
		{l: arrivals("0 1"), s: "2 1/3", delay: "1/3", store: "0"},
	})
}

// TestMost has 32 curves of up to 32 buckets.
func TestMost(t *testing.T) {
	ask(t, []question{
		{l: slices.Repeat(arrivals("3 1/32"), 32), s: "1 2", delay: "98", store: "98"},
		{l: slices.Repeat(arrivals("0 3, 20 1"), 32), s: "64 0", delay: "5", store: "320"},
		{l: slices.Repeat([]api.Curve{slices.Repeat(arrival("3 1/32"), 32)}, 32), s: "1 2", delay: "98", store: "98"},
		{l: slices.Repeat([]api.Curve{squares(32)}, 32), s: "320 0", delay: "441/10", store: "14112"},
	})
}

// squares has n buckets, of which any two meet at the sum of their indices. Until the last ones meet, its value at t is n - 1 times t, minus a quarter of the square of t, rounded down.
func squares(n int) api.Curve {
	var c api.Curve
	for i := range n {
		c = append(c, api.Bucket{Burst: api.Rat{N: i * i, D: 1}, Rate: api.Rat{N: n - 1 - i, D: 1}})
	}
	return c
}

// P3.1: arguments that are not valid

func TestInvalid(t *testing.T) {
	good, many := arrivals("3 1/64", "4 1/64"), slices.Repeat(arrivals("3 1/64"), 33)
	both := func(what any, l []api.Curve, s api.Server) {
		t.Helper()
		same(t, what, "", api.ErrArg)(calculus.Delay(l, s))
		same(t, what, "", api.ErrArg)(calculus.Backlog(l, s))
	}
	both("33 curves", many, server("1 0"))
	both("33 curves without an own error", slices.Concat(many, many), server("1/1073741824 0"))
	for _, s := range badServers() {
		both(s, nil, s)
		both(s, good, s)
		both(s, arrivals(finest), s)
		both(s, many, s)
	}
	for _, c := range badCurves() {
		for _, l := range [][]api.Curve{{c}, {c, good[0]}, {good[0], c}, {good[0], good[1], c}, {arrival(finest), c}, {c, arrival(finest)}, slices.Concat(many[:31], []api.Curve{c})} {
			both(l, l, server("1 0"))
			both(l, l, server("1/1073741824 1073741824"))
		}
	}
}

// finest is a curve whose breakpoint cannot be computed: the difference of the bursts is too fine.
const finest = "1/1073741824 2, 2 1"

func TestFinest(t *testing.T) {
	if _, e := curve.Breaks(arrival(finest)); e != api.ErrLong {
		t.Error(e)
	}
}

// P3.1, P3.2: numbers that are too large

// TestLong has errors that come before the bounds are computed.
func TestLong(t *testing.T) {
	for i, x := range []struct {
		l    []api.Curve
		s    string
		want api.Errno
	}{
		// Breakpoints.
		{arrivals(finest), "5 0", api.ErrLong},
		{arrivals("1 1", "1 1", finest), "5 0", api.ErrLong},
		{arrivals(finest, "1 1"), "5 0", api.ErrLong},
		{arrivals("0 1, 1073741824 1/2"), "5 0", api.ErrLong},
		// Sums of rates.
		{arrivals("0 1/32768", "0 1/32769"), "5 0", api.ErrLong},
		{arrivals("0 1073741824", "0 1"), "1073741824 0", api.ErrLong},
		{arrivals("0 1", "0 1", "0 1073741823"), "1073741824 0", api.ErrLong},
		{arrivals("0 0", "0 1073741823", "0 1"), "1073741824 0", api.OK},
		// They are added up in order, and one on the way may be too large.
		{arrivals("0 1/65536", "0 1/65537", "0 65536/65537"), "2 0", api.ErrLong},
		{arrivals("0 1/65537", "0 65536/65537", "0 1/65536"), "2 0", api.OK},
		{arrivals("0 65536/65537", "0 1/65536", "0 1/65537"), "2 0", api.ErrLong},
		// Both come before ErrNone.
		{arrivals(finest), "1/2 0", api.ErrLong},
		{arrivals("0 9", finest), "1/2 0", api.ErrLong},
		{arrivals("0 1/32768", "0 1/32769"), "1/1073741824 0", api.ErrLong},
		{arrivals("0 1073741824", "0 1"), "1 0", api.ErrLong},
		{arrivals("0 3", "0 1/32768", "0 1/32769"), "1 0", api.ErrLong},
		// ErrNone.
		{arrivals("1 1/2"), "1/3 0", api.ErrNone},
		{arrivals("1 1/2", "1 1/3"), "4/5 0", api.ErrNone},
		{arrivals("1 1/2", "1 1/3"), "83333333/100000000 0", api.ErrNone},
		{arrivals("1 1/2", "1 1/3"), "83333333/99999999 0", api.OK},
		{arrivals("0 3, 20 1", "6 1/2"), "4/3 0", api.ErrNone},
		{arrivals("0 1073741824"), "1073741823 0", api.ErrNone},
		{slices.Repeat(arrivals("1 1/31"), 32), "1 0", api.ErrNone},
	} {
		for _, bound := range []func([]api.Curve, api.Server) (api.Rat, api.Errno){calculus.Delay, calculus.Backlog} {
			if v, e := bound(x.l, server(x.s)); e != x.want || e != api.OK && v != (api.Rat{}) {
				t.Error(i, v, e)
			}
		}
	}
}

// TestLongValues has errors of the numbers that are computed at the points: one of them suffices, even where the value is not the greatest.
func TestLongValues(t *testing.T) {
	long := api.ErrLong
	ask(t, []question{
		// The value of a curve at a point, and the total, also on the way.
		{l: arrivals("0 1048576, 1073741819 1"), s: "2 0", e: long, f: long},
		{l: arrivals("1073741824 0", "1 0"), s: "1 0", e: long, f: long},
		{l: arrivals("1/65536 0", "1/65537 0", "65536/65537 0"), s: "1 0", e: long, f: long},
		{l: arrivals("1/65537 0", "65536/65537 0", "1/65536 0"), s: "1 0", delay: "65537/65536", store: "65537/65536"},
		// ErrNone comes before them.
		{l: arrivals("1073741824 0", "1 1"), s: "1/2 0", e: api.ErrNone, f: api.ErrNone},
		{l: arrivals("0 1048576, 1073741819 1"), s: "1/2 0", e: api.ErrNone, f: api.ErrNone},
		// The quotient, the difference and the sum of Delay.
		{l: arrivals("1073741824 0"), s: "1/2 0", e: long, store: "1073741824"},
		{l: arrivals("1/32768 0"), s: "65537/65535 1", e: long, store: "1/32768"},
		{l: arrivals("0 1/2000, 1 0", "1/1048576 0"), s: "1 2000", e: long, store: "1048577/1048576"},
		{l: arrivals("1 0"), s: "1 1073741824", e: long, store: "1"},
		{l: arrivals("1/3 0"), s: "1 1073741823", e: long, store: "1/3"},
		// The latency is added last, to what would be too large with it first.
		{l: arrivals("0 1048576, 1073741824 0"), s: "1 1024", delay: "1073741824", store: "1073741824"},
		{l: arrivals("0 1048576, 1073741824 0"), s: "1 1025", e: long, f: long},
		// The difference, the product and the difference of Backlog.
		{l: arrivals("0 1, 2000 0"), s: "1 1/1048576", delay: "1/1048576", f: long},
		{l: arrivals("0 1, 2000 0"), s: "1048576 0", delay: "0", f: long},
		{l: arrivals("1/32768 0"), s: "1/32768 1/32769", delay: "32770/32769", f: long},
		{l: arrivals("1073741824 0"), s: "1 1/2", e: long, f: long},
		// The total at the latency.
		{l: arrivals("0 2"), s: "2 536870912", delay: "536870912", store: "1073741824"},
		{l: arrivals("0 2"), s: "2 536870913", delay: "536870913", f: long},
		// Up to the latency nothing is served, and nothing of that computed.
		{l: nil, s: "2 1073741824", delay: "1073741824", store: "0"},
		{l: arrivals("0 1, 3 0"), s: "1073741824 3", e: long, store: "3"},
		{l: arrivals("0 1, 1 0"), s: "1073741824 1", delay: "1", store: "1"},
	})
}

// P3.2: Chain

func TestChain(t *testing.T) {
	for _, x := range []struct {
		a, b, want string
		e          api.Errno
	}{
		{"2 3", "1/2 5/2", "1/2 11/2", api.OK},
		{"1/2 5/2", "2 3", "1/2 11/2", api.OK},
		{"1 0", "1 0", "1 0", api.OK},
		{"1/3 7", "1/3 1/6", "1/3 43/6", api.OK},
		{"2/5 1", "1/3 0", "1/3 1", api.OK},
		{"1073741824 1073741823", "1073741823 1", "1073741823 1073741824", api.OK},
		{"1/1073741823 0", "1/1073741824 1073741824", "1/1073741824 1073741824", api.OK},
		{"1 1073741824", "2 1", "", api.ErrLong},
		{"1 1", "2 1073741824", "", api.ErrLong},
		{"1 1073741824", "1 1/2", "", api.ErrLong},
		{"1 1/32768", "1 1/32769", "", api.ErrLong},
	} {
		want := api.Server{}
		if x.e == api.OK {
			want = server(x.want)
		}
		if s, e := calculus.Chain(server(x.a), server(x.b)); s != want || e != x.e {
			t.Error(x, s, e)
		}
	}
	long := server("1 1073741824")
	for _, bad := range badServers() {
		for _, pair := range [][2]api.Server{{bad, long}, {long, bad}, {bad, bad}, {bad, server("1 0")}, {server("1 0"), bad}} {
			if s, e := calculus.Chain(pair[0], pair[1]); s != (api.Server{}) || e != api.ErrArg {
				t.Error(pair, s, e)
			}
		}
	}
}
