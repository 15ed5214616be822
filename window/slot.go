package window

import (
	"nacelle/api"
)

// slot is a valid slot.
type slot api.Slot

// Valid reports whether a slot is valid.
func Valid(s api.Slot) bool {
	return isFrame(s.Period) && s.Length >= 1 && s.Length <= s.Period && s.Offset >= 0 && s.Offset <= s.Period-s.Length
}

// Disjoint reports whether two slots are disjoint.
func Disjoint(a, b api.Slot) bool {
	return Valid(a) && Valid(b) && slot(a).apart(slot(b))
}

// Meet returns the first time at which two slots are open.
func Meet(a, b api.Slot) (int, bool) {
	if !Valid(a) || !Valid(b) || slot(a).apart(slot(b)) {
		return 0, false
	}
	// When both are open for the first time, one of them opens. As slots open within their first period, all recurs after a multiple of both periods.
	x, y, end := slot(a), slot(b), a.Period*b.Period
	return min(x.entry(y, end), y.entry(x, end)), true
}

// apart reports whether two slots are disjoint. Their distances are all numbers with the same remainder.
func (s slot) apart(other slot) bool {
	g := divisor(s.Period, other.Period)
	d := ((other.Offset-s.Offset)%g + g) % g
	return s.Length <= d && d+other.Length <= g
}

// entry returns the first time before end at which a slot opens while another one is open; end if there is none.
func (s slot) entry(other slot, end int) int {
	for t := range s.openings(end) {
		if other.isOpen(t) {
			return t
		}
	}
	return end
}

// openings yields the times before end at which a slot opens.
func (s slot) openings(end int) func(yield func(int) bool) {
	return func(yield func(int) bool) {
		for t := s.Offset; t < end; t += s.Period {
			if !yield(t) {
				return
			}
		}
	}
}

func (s slot) isOpen(t int) bool {
	return t >= s.Offset && (t-s.Offset)%s.Period < s.Length
}

// divisor returns the greatest common divisor of two numbers, which are positive.
func divisor(a, b int) int {
	var gcd func(a, b int) int
	gcd = func(a, b int) int {
		if b == 0 {
			return a
		}
		return gcd(b, a%b)
	}
	return gcd(a, b)
}
