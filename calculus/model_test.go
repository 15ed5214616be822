package calculus_test

import (
	"math/big"
	"math/rand"
	"slices"
	"testing"

	"nacelle/api"
	"nacelle/calculus"
	"nacelle/curve"
	"nacelle/rat"
)

// model computes as the chapter says, with numbers of any size, and notes whether one is too large.
type model struct{ long bool }

func (m *model) note(v *big.Rat) *big.Rat {
	m.long = m.long || !fits(v)
	return v
}

func fits(v *big.Rat) bool {
	limit := big.NewInt(top)
	return v.Num().CmpAbs(limit) <= 0 && v.Denom().Cmp(limit) <= 0
}

func (m *model) add(x, y *big.Rat) *big.Rat { return m.note(new(big.Rat).Add(x, y)) }
func (m *model) sub(x, y *big.Rat) *big.Rat { return m.note(new(big.Rat).Sub(x, y)) }
func (m *model) mul(x, y *big.Rat) *big.Rat { return m.note(new(big.Rat).Mul(x, y)) }
func (m *model) quo(x, y *big.Rat) *big.Rat { return m.note(new(big.Rat).Quo(x, y)) }

// value takes the zero number, which comes with errors, for 0.
func value(x api.Rat) *big.Rat { return big.NewRat(int64(x.N), max(int64(x.D), 1)) }

func text(v *big.Rat) string { return v.RatString() }

// total is the total of the curves at t.
func (m *model) total(l []api.Curve, t *big.Rat) *big.Rat {
	sum := new(big.Rat)
	for _, c := range l {
		var values []*big.Rat
		for _, b := range c {
			values = append(values, m.add(value(b.Burst), m.mul(value(b.Rate), t)))
		}
		sum = m.add(sum, slices.MinFunc(values, (*big.Rat).Cmp))
	}
	return sum
}

// late and stored are what Delay, without the latency, and Backlog compare.
func (m *model) late(l []api.Curve, s api.Server, t *big.Rat) *big.Rat {
	return m.sub(m.quo(m.total(l, t), value(s.Rate)), t)
}

func (m *model) stored(l []api.Curve, s api.Server, t *big.Rat) *big.Rat {
	total := m.total(l, t)
	if t.Cmp(value(s.Latency)) <= 0 {
		return total
	}
	return m.sub(total, m.mul(value(s.Rate), m.sub(t, value(s.Latency))))
}

// sumOfRates is what Delay and Backlog compute before they compare it with the rate of the server.
func (m *model) sumOfRates(l []api.Curve) *big.Rat {
	sum := new(big.Rat)
	for _, c := range l {
		var rates []*big.Rat
		for _, b := range c {
			rates = append(rates, value(b.Rate))
		}
		sum = m.add(sum, slices.MinFunc(rates, (*big.Rat).Cmp))
	}
	return sum
}

// early is the error that valid arguments have before the bounds are computed.
func early(l []api.Curve, s api.Server) api.Errno {
	for _, c := range l {
		if _, e := curve.Breaks(c); e != api.OK {
			return e
		}
	}
	var m model
	sum := m.sumOfRates(l)
	switch {
	case m.long:
		return api.ErrLong
	case sum.Cmp(value(s.Rate)) > 0:
		return api.ErrNone
	}
	return api.OK
}

// ticks are 0, and the breakpoints and the other times rounded down and up, in the order of the chapter.
func ticks(l []api.Curve, others ...api.Rat) []*big.Rat {
	points := []*big.Rat{new(big.Rat)}
	add := func(x api.Rat) {
		points = append(points, big.NewRat(int64(rat.Floor(x)), 1), big.NewRat(int64(rat.Ceil(x)), 1))
	}
	for _, c := range l {
		breaks, _ := curve.Breaks(c)
		for _, x := range breaks {
			add(x)
		}
	}
	for _, x := range others {
		add(x)
	}
	return points
}

// wantDelay is the result that Delay should have. It is not clear if the latency can be added to the greatest value, but not to another one.
func wantDelay(l []api.Curve, s api.Server) (want string, e api.Errno, clear bool) {
	if e := early(l, s); e != api.OK {
		return "", e, true
	}
	var m, last model
	var most *big.Rat
	for _, t := range ticks(l) {
		v := m.late(l, s, t)
		last.add(v, value(s.Latency))
		if most == nil || v.Cmp(most) > 0 {
			most = v
		}
	}
	most = m.add(most, value(s.Latency))
	if m.long {
		return "", api.ErrLong, true
	}
	return text(most), api.OK, !last.long
}

// wantBacklog is the result that Backlog should have.
func wantBacklog(l []api.Curve, s api.Server) (want string, e api.Errno) {
	if e := early(l, s); e != api.OK {
		return "", e
	}
	var m model
	var values []*big.Rat
	for _, t := range ticks(l, s.Latency) {
		values = append(values, m.stored(l, s, t))
	}
	if m.long {
		return "", api.ErrLong
	}
	return text(slices.MaxFunc(values, (*big.Rat).Cmp)), api.OK
}

// someNumber is small, or close to a limit.
func someNumber(r *rand.Rand) api.Rat {
	n, d := r.Intn(40), 1
	switch r.Intn(20) {
	case 0:
		n = top - r.Intn(3)
	case 1:
		d = top - r.Intn(3)
	case 2:
		n, d = r.Intn(1<<15), 1+r.Intn(1<<15)
	case 3, 4, 5, 6:
		d = 1 + r.Intn(6)
	}
	x, _ := rat.Make(n, d)
	return x
}

// someCurves has few dominated buckets, since the rates of each curve fall.
func someCurves(r *rand.Rand, number func(r *rand.Rand) api.Rat) []api.Curve {
	var l []api.Curve
	for range r.Intn(4) {
		var bursts, rates []api.Rat
		for range 1 + r.Intn(4) {
			bursts, rates = append(bursts, number(r)), append(rates, number(r))
		}
		slices.SortFunc(bursts, rat.Cmp)
		slices.SortFunc(rates, func(x, y api.Rat) int { return rat.Cmp(y, x) })
		var c api.Curve
		for i := range bursts {
			c = append(c, api.Bucket{Burst: bursts[i], Rate: rates[i]})
		}
		l = append(l, c)
	}
	return l
}

// someServer just serves the curves half of the time.
func someServer(r *rand.Rand, l []api.Curve, number func(r *rand.Rand) api.Rat) api.Server {
	s := api.Server{Rate: number(r), Latency: number(r)}
	var m model
	if sum := m.sumOfRates(l); r.Intn(2) == 0 && fits(sum) {
		s.Rate = num(text(sum))
	}
	if s.Rate.N == 0 {
		s.Rate = num("1")
	}
	return s
}

// TestModel compares Delay and Backlog with the model, also where numbers are too large.
func TestModel(t *testing.T) {
	r := rand.New(rand.NewSource(3))
	seen := map[api.Errno]int{}
	unclear := 0
	for range 20000 {
		l := someCurves(r, someNumber)
		s := someServer(r, l, someNumber)
		want, e, clear := wantDelay(l, s)
		if clear {
			same(t, []any{"Delay", l, s}, want, e)(calculus.Delay(l, s))
		} else {
			unclear++
		}
		want, f := wantBacklog(l, s)
		same(t, []any{"Backlog", l, s}, want, f)(calculus.Backlog(l, s))
		seen[e]++
		seen[f]++
	}
	if seen[api.OK] < 10000 || seen[api.ErrLong] < 10000 || seen[api.ErrNone] < 3000 || unclear > 500 {
		t.Error("the samples are too much alike", seen, unclear)
	}
}
