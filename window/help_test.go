package window_test

import (
	"cmp"
	"iter"
	"math"
	"math/rand"
	"slices"
	"testing"

	"nacelle/api"
	"nacelle/window"
)

// The signatures of the chapter.
var (
	_ func(api.Slot) bool                                                     = window.Valid
	_ func(api.Slot, api.Slot) bool                                           = window.Disjoint
	_ func(api.Slot, api.Slot) (int, bool)                                    = window.Meet
	_ func(api.Module, []int) ([]api.Slot, api.Errno)                         = window.Slots
	_ func(api.Module, []int) ([]api.Window, api.Errno)                       = window.Table
	_ func([]api.Window, int, int) (part int, ok bool)                        = window.Owner
	_ func([]api.Window, int, int) (w api.Window, at int, ok bool)            = window.Next
	_ func(api.Module, []api.Window) bool                                     = window.Fits
	_ [window.ErrClash - api.Errno(120)]struct{}                              = [0]struct{}{}
	_ [api.MaxFrames - 2000 + api.MaxParts - 6 + api.MaxTime - 1<<30]struct{} = [0]struct{}{}
)

// big30 is the greatest distance from 0 of the numbers of a window that may be selected.
const big30 = 1 << 30

// extremes are numbers at which computations of ints go wrong.
var extremes = []int{math.MinInt, math.MinInt + 1, math.MinInt + 2000, -1 << 62, -1 << 32, -1 << 31, -big30 - 2000, -big30 - 1, -big30, -big30 + 1, -2001, -2000, -1999, -12, -2, -1, 0, 1, 2, 3, 12, 1000, 1999, 2000, 2001, 3999, 4000, big30 - 2000, big30 - 1, big30, big30 + 1, 1<<31 - 1, 1 << 31, 1 << 32, 1<<32 + 1, 1 << 62, math.MaxInt - 2000, math.MaxInt - 1, math.MaxInt}

func slot(offset, period, length int) api.Slot {
	return api.Slot{Offset: offset, Period: period, Length: length}
}

func win(part, start, length int) api.Window {
	return api.Window{Part: part, Start: start, Length: length}
}

// module returns a module whose partitions have the given periods and lengths, by turns.
func module(frame int, times ...int) api.Module {
	m := api.Module{Frame: frame}
	for i := 0; i < len(times); i += 2 {
		m.Parts = append(m.Parts, api.Part{Period: times[i], Length: times[i+1]})
	}
	return m
}

// starts returns the first numbers of windows, by which examples show tables.
func starts(table []api.Window) (parts, at []int) {
	for _, w := range table {
		parts, at = append(parts, w.Part), append(at, w.Start)
	}
	return parts, at
}

// lists yields all lists of n elements. They must not be kept.
func lists[T any](elements []T, n int) iter.Seq[[]T] {
	return func(yield func([]T) bool) {
		l := make([]T, n)
		var fill func(i int) bool
		fill = func(i int) bool {
			if i == n {
				return yield(l)
			}
			for _, x := range elements {
				l[i] = x
				if !fill(i + 1) {
					return false
				}
			}
			return true
		}
		fill(0)
	}
}

// isValid follows the definition of valid slots.
func isValid(s api.Slot) bool {
	if s.Period < 1 || s.Period > 2000 || s.Length < 1 || s.Length > s.Period {
		return false
	}
	return s.Offset >= 0 && s.Offset <= s.Period-s.Length
}

// isOpen follows the definition of a slot that is open.
func isOpen(s api.Slot, t int) bool {
	return t >= s.Offset && (t-s.Offset)%s.Period < s.Length
}

// firstMeeting looks at all times: from the later offset on, all recurs after as many ticks as the product of the periods.
func firstMeeting(a, b api.Slot) (int, bool) {
	if !isValid(a) || !isValid(b) {
		return 0, false
	}
	for t := range max(a.Offset, b.Offset) + a.Period*b.Period {
		if isOpen(a, t) && isOpen(b, t) {
			return t, true
		}
	}
	return 0, false
}

// divisor returns the greatest common divisor, of which there is no quick way here.
func divisor(a, b int) int {
	g := min(a, b)
	for a%g != 0 || b%g != 0 {
		g--
	}
	return g
}

// areApart follows the first consequence, as the definition takes too long for large periods.
func areApart(a, b api.Slot) bool {
	g, d := divisor(a.Period, b.Period), 0
	for (b.Offset-a.Offset-d)%g != 0 {
		d++
	}
	return a.Length <= d && d+b.Length <= g
}

// theSlots follows the definitions of valid times and of offsets that fit.
func theSlots(m api.Module, offsets []int) ([]api.Slot, api.Errno) {
	if m.Frame < 1 || m.Frame > 2000 || len(m.Parts) > 6 {
		return nil, api.ErrArg
	}
	for _, p := range m.Parts {
		if p.Period < 1 || m.Frame%p.Period != 0 || p.Length < 1 || p.Length > p.Period {
			return nil, api.ErrArg
		}
	}
	if len(offsets) != len(m.Parts) {
		return nil, api.ErrArg
	}
	var l []api.Slot
	for i, p := range m.Parts {
		l = append(l, slot(offsets[i], p.Period, p.Length))
		if !isValid(l[i]) {
			return nil, api.ErrArg
		}
	}
	return l, api.OK
}

// theTable follows the definition of the table. Slots clash if they are open at the same time in the first two frames: all recurs after one.
func theTable(m api.Module, offsets []int) ([]api.Window, api.Errno) {
	l, e := theSlots(m, offsets)
	if e != api.OK {
		return nil, e
	}
	var table []api.Window
	for t := range 2 * m.Frame {
		open := 0
		for _, s := range l {
			if isOpen(s, t) {
				open++
			}
		}
		if open > 1 {
			return nil, window.ErrClash
		}
	}
	for i, s := range l {
		for k := range m.Frame / s.Period {
			table = append(table, win(i, s.Offset+k*s.Period, s.Length))
		}
	}
	slices.SortFunc(table, func(a, b api.Window) int { return cmp.Compare(a.Start, b.Start) })
	return table, api.OK
}

// isSelected reports whether the numbers of a window are not too far from 0.
func isSelected(w api.Window) bool {
	return w.Start >= -big30 && w.Start <= big30 && w.Length >= -big30 && w.Length <= big30
}

// theOwner follows the definition of Owner.
func theOwner(table []api.Window, frame, t int) (int, bool) {
	if frame < 1 || frame > 2000 || t < 0 || t > big30 {
		return 0, false
	}
	for _, w := range table {
		if isSelected(w) && w.Start <= t%frame && w.Start+w.Length > t%frame {
			return w.Part, true
		}
	}
	return 0, false
}

// theNext follows the definition of Next, a tick after the other.
func theNext(table []api.Window, frame, t int) (api.Window, int, bool) {
	if frame < 1 || frame > 2000 || t < 0 || t > big30 {
		return api.Window{}, 0, false
	}
	for at := t; at < t+frame; at++ {
		for _, w := range table {
			if isSelected(w) && w.Start == at%frame {
				return w, at, true
			}
		}
	}
	return api.Window{}, 0, false
}

// someSlot returns a valid slot with a period of at most n.
func someSlot(r *rand.Rand, n int) api.Slot {
	period := 1 + r.Intn(n)
	length := 1 + r.Intn(1+r.Intn(period))
	return slot(r.Intn(period-length+1), period, length)
}

// someFrame returns a frame and its divisors. There are many of them often.
func someFrame(r *rand.Rand) (int, []int) {
	frame := []int{1, 2, 12, 24, 60, 360, 720, 1680, 2000, 1 + r.Intn(2000)}[r.Intn(10)]
	var all []int
	for n := 1; n <= frame; n++ {
		if frame%n == 0 {
			all = append(all, n)
		}
	}
	return frame, all
}

// someModule returns a module and offsets that fit it. Some of them have a table, as lengths are short often.
func someModule(r *rand.Rand) (api.Module, []int) {
	frame, periods := someFrame(r)
	m, offsets := module(frame), []int{}
	for range r.Intn(7) {
		period := periods[len(periods)-1-r.Intn(1+r.Intn(len(periods)))]
		length := 1 + r.Intn(1+r.Intn(1+period/6))
		m.Parts = append(m.Parts, api.Part{Period: period, Length: length})
		offsets = append(offsets, r.Intn(period-length+1))
	}
	return m, offsets
}

// someTabled returns a module and offsets that have a table.
func someTabled(r *rand.Rand) (api.Module, []int) {
	for {
		m, offsets := someModule(r)
		if _, e := theTable(m, offsets); e == api.OK {
			return m, offsets
		}
	}
}

// someNumber returns a number near 0, near the limits or anywhere.
func someNumber(r *rand.Rand) int {
	switch r.Intn(4) {
	case 0:
		return r.Intn(12) - 1
	case 1:
		return r.Intn(2010) - 5
	case 2:
		return extremes[r.Intn(len(extremes))]
	}
	return int(r.Uint64()) >> r.Intn(64)
}

// someWindows returns arbitrary windows whose numbers are near those of a frame.
func someWindows(r *rand.Rand, frame int) []api.Window {
	l := make([]api.Window, r.Intn(8))
	for i := range l {
		l[i] = win(r.Intn(9)-1, r.Intn(frame+8)-4, r.Intn(frame+6)-2)
		if r.Intn(6) == 0 {
			l[i].Start = someNumber(r)
		}
		if r.Intn(6) == 0 {
			l[i].Length = someNumber(r)
		}
	}
	return l
}

func checkPair(t *testing.T, a, b api.Slot) {
	t.Helper()
	want, met := firstMeeting(a, b)
	at, ok := window.Meet(a, b)
	if at != want || ok != met {
		t.Errorf("%v %v: meet %d %v, but not %d %v", a, b, at, ok, want, met)
	}
	if got := window.Disjoint(a, b); got != (isValid(a) && isValid(b) && !met) {
		t.Errorf("%v %v: disjoint %v", a, b, got)
	}
}

func checkTable(t *testing.T, m api.Module, offsets []int) {
	t.Helper()
	l, e := window.Slots(m, offsets)
	if want, f := theSlots(m, offsets); !slices.Equal(l, want) || e != f {
		t.Errorf("%v %v: slots %v %d, but not %v %d", m, offsets, l, e, want, f)
	}
	table, e := window.Table(m, offsets)
	if want, f := theTable(m, offsets); !slices.Equal(table, want) || e != f {
		t.Errorf("%v %v: table %v %d, but not %v %d", m, offsets, table, e, want, f)
	}
}

func checkTimes(t *testing.T, table []api.Window, frame, at int) {
	t.Helper()
	part, ok := window.Owner(table, frame, at)
	if want, owned := theOwner(table, frame, at); part != want || ok != owned {
		t.Errorf("%v %d %d: owner %d %v, but not %d %v", table, frame, at, part, ok, want, owned)
	}
	w, start, ok := window.Next(table, frame, at)
	if want, first, some := theNext(table, frame, at); w != want || start != first || ok != some {
		t.Errorf("%v %d %d: next %v %d %v, but not %v %d %v", table, frame, at, w, start, ok, want, first, some)
	}
}
