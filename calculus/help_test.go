package calculus_test

import (
	"math"
	"slices"
	"strings"
	"testing"

	"nacelle/api"
	"nacelle/calculus"
	"nacelle/rat"
)

const top = api.MaxRat

// The signatures of the chapter.
var (
	_ func(api.Server) bool                              = calculus.Valid
	_ func([]api.Curve, api.Server) (api.Rat, api.Errno) = calculus.Delay
	_ func([]api.Curve, api.Server) (api.Rat, api.Errno) = calculus.Backlog
	_ func(a, b api.Server) (api.Server, api.Errno)      = calculus.Chain
	_ func(api.Curve, []api.Sent) (bool, api.Errno)      = calculus.Conforms
	_ func([]api.Sent, int, int) ([]int, api.Errno)      = calculus.Serve
)

// num reads a number such as 5/6.
func num(text string) api.Rat {
	x, e := rat.Parse(text)
	if e != api.OK {
		panic(text)
	}
	return x
}

// two reads two numbers with a blank between them.
func two(text string) (x, y api.Rat) {
	first, second, _ := strings.Cut(text, " ")
	return num(first), num(second)
}

// arrival reads a curve: the burst and the rate of each bucket, with commas between buckets.
func arrival(text string) api.Curve {
	var c api.Curve
	for b := range strings.SplitSeq(text, ", ") {
		burst, rate := two(b)
		c = append(c, api.Bucket{Burst: burst, Rate: rate})
	}
	return c
}

func arrivals(texts ...string) []api.Curve {
	var l []api.Curve
	for _, s := range texts {
		l = append(l, arrival(s))
	}
	return l
}

// server reads a rate and a latency.
func server(text string) api.Server {
	rate, latency := two(text)
	return api.Server{Rate: rate, Latency: latency}
}

// sent returns frames by their times and sizes, in turn, of virtual links that do not exist.
func sent(numbers ...int) []api.Sent {
	var l []api.Sent
	for pair := range slices.Chunk(numbers, 2) {
		l = append(l, api.Sent{Time: pair[0], VL: math.MinInt + len(l), Size: pair[1]})
	}
	return l
}

// steady returns n frames of the given size, one every step ticks.
func steady(n, step, size int) []api.Sent {
	var l []api.Sent
	for i := range n {
		l = append(l, api.Sent{Time: i * step, VL: i, Size: size})
	}
	return l
}

// badNumbers has a number for each way in which one can be wrong that must be valid and not negative.
func badNumbers() []api.Rat {
	l := []api.Rat{{}, {N: 1}, {N: 6, D: 4}, {N: 0, D: 3}, {N: 1, D: top + 1}, {N: top + 1, D: 1}}
	for _, n := range []int{-1, -top, math.MinInt, math.MaxInt} {
		l = append(l, api.Rat{N: n, D: 1}, api.Rat{N: 1, D: -1}, api.Rat{N: 1, D: min(n, -n)}, api.Rat{N: n, D: n})
	}
	return append(l, num("-1/2"), num("-1/1073741824"))
}

// badServers has each bad number, and 0 as a rate.
func badServers() []api.Server {
	l := []api.Server{{}, server("0 0"), server("0 1"), server("0 1073741824")}
	for _, x := range badNumbers() {
		l = append(l, api.Server{Rate: x, Latency: num("1")}, api.Server{Rate: num("1"), Latency: x}, api.Server{Rate: x, Latency: x})
	}
	return l
}

// badCurves are empty, too long, or have a bad number.
func badCurves() []api.Curve {
	l := []api.Curve{nil, {}, slices.Repeat(arrival("1 1"), 33)}
	for _, x := range badNumbers() {
		for i := range 3 {
			c, d := arrival("1 1/8, 2 1/9, 3 1/10"), arrival("1 1/8, 2 1/9, 3 1/10")
			c[i].Burst, d[i].Rate = x, x
			l = append(l, c, d)
		}
	}
	return l
}

// same checks a number and an error.
func same(t *testing.T, what any, want string, wantE api.Errno) func(api.Rat, api.Errno) {
	return func(x api.Rat, e api.Errno) {
		t.Helper()
		if rat.String(x) != want || e != wantE || e != api.OK && x != (api.Rat{}) {
			t.Error(what, rat.String(x), x, e, "but not", want, wantE)
		}
	}
}
