// Package rat implements exact rational numbers of bounded size. It is layer 1: see shared/doc/01-rat.md.
package rat

import (
	"cmp"
	"strconv"
	"strings"

	"nacelle/api"
)

// Valid reports whether x is within the limits and in lowest terms.
func Valid(x api.Rat) bool {
	if x.D < 1 || x.D > api.MaxRat || x.N < -api.MaxRat || x.N > api.MaxRat {
		return false
	}
	return gcd(max(x.N, -x.N), x.D) == 1
}

// Make returns n divided by d.
func Make(n, d int) (api.Rat, api.Errno) {
	if d == 0 {
		return api.Rat{}, api.ErrArg
	}
	a, b := magnitude(n), magnitude(d)
	g := gcd(a, b)
	a, b = a/g, b/g
	if a > api.MaxRat || b > api.MaxRat {
		return api.Rat{}, api.ErrLong
	}
	x := api.Rat{N: int(a), D: int(b)}
	if (n < 0) != (d < 0) {
		x.N = -x.N
	}
	return x, api.OK
}

// Add returns x + y.
func Add(x, y api.Rat) (api.Rat, api.Errno) { return apply('+', x, y) }

// Sub returns x - y.
func Sub(x, y api.Rat) (api.Rat, api.Errno) { return apply('-', x, y) }

// Mul returns x times y.
func Mul(x, y api.Rat) (api.Rat, api.Errno) { return apply('*', x, y) }

// Div returns x divided by y.
func Div(x, y api.Rat) (api.Rat, api.Errno) { return apply('/', x, y) }

// Cmp returns -1, 0 or 1 if x is less than, equal to, or greater than y, and 0 if one of them is not valid.
func Cmp(x, y api.Rat) int {
	if !Valid(x) || !Valid(y) {
		return 0
	}
	return cmp.Compare(x.N*y.D, y.N*x.D)
}

// Floor returns the greatest integer that is at most x, or 0 if x is not valid.
func Floor(x api.Rat) int {
	if !Valid(x) {
		return 0
	}
	q := x.N / x.D
	if x.N%x.D < 0 {
		q--
	}
	return q
}

// Ceil returns the smallest integer that is at least x, or 0 if x is not valid.
func Ceil(x api.Rat) int {
	if !Valid(x) {
		return 0
	}
	q := x.N / x.D
	if x.N%x.D > 0 {
		q++
	}
	return q
}

// String returns the text of x, which is empty if x is not valid.
func String(x api.Rat) string {
	if !Valid(x) {
		return ""
	}
	text := strconv.Itoa(x.N)
	if x.D != 1 {
		text += "/" + strconv.Itoa(x.D)
	}
	return text
}

// Parse returns the valid number whose text is s.
func Parse(s string) (api.Rat, api.Errno) {
	top, bottom, slash := strings.Cut(s, "/")
	if !slash {
		bottom = "1"
	}
	n, errN := strconv.Atoi(top)
	d, errD := strconv.Atoi(bottom)
	x := api.Rat{N: n, D: d}
	// Atoi also reads texts that String never writes, such as +1 and 01, and numbers that are not valid: only the comparison rules them out.
	if errN != nil || errD != nil || String(x) != s {
		return api.Rat{}, api.ErrArg
	}
	return x, api.OK
}

// apply returns the result of the operation with the given sign.
func apply(sign byte, x, y api.Rat) (api.Rat, api.Errno) {
	if !Valid(x) || !Valid(y) {
		return api.Rat{}, api.ErrArg
	}
	// Products of valid numbers are at most 2^60, so nothing overflows; Make rejects the 0 by which '/' would divide.
	operations := map[byte]func(x, y api.Rat) (n, d int){
		'+': func(x, y api.Rat) (n, d int) { return x.N*y.D + y.N*x.D, x.D * y.D },
		'-': func(x, y api.Rat) (n, d int) { return x.N*y.D - y.N*x.D, x.D * y.D },
		'*': func(x, y api.Rat) (n, d int) { return x.N * y.N, x.D * y.D },
		'/': func(x, y api.Rat) (n, d int) { return x.N * y.D, x.D * y.N },
	}
	return Make(operations[sign](x, y))
}

// magnitude is unsigned because the one of the least int is not an int.
func magnitude(n int) uint64 {
	if n < 0 {
		return -uint64(n)
	}
	return uint64(n)
}

// gcd returns the greatest common divisor of numbers that are not negative and not both 0.
func gcd[T int | uint64](a, b T) T {
	for b != 0 {
		a, b = b, a%b
	}
	return a
}
