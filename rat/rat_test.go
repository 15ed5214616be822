package rat_test

import (
	"math"
	"math/big"
	"regexp"
	"strconv"
	"strings"
	"sync"
	"testing"

	"nacelle/api"
	"nacelle/rat"
)

const top = api.MaxRat

// The signatures of the chapter. None has a pointer, a slice or a map, so R3 and R5 hold as long as this compiles.
var (
	_ func(api.Rat) bool                          = rat.Valid
	_ func(int, int) (api.Rat, api.Errno)         = rat.Make
	_ func(api.Rat, api.Rat) (api.Rat, api.Errno) = rat.Add
	_ func(api.Rat, api.Rat) (api.Rat, api.Errno) = rat.Sub
	_ func(api.Rat, api.Rat) (api.Rat, api.Errno) = rat.Mul
	_ func(api.Rat, api.Rat) (api.Rat, api.Errno) = rat.Div
	_ func(api.Rat, api.Rat) int                  = rat.Cmp
	_ func(api.Rat) int                           = rat.Floor
	_ func(api.Rat) int                           = rat.Ceil
	_ func(api.Rat) string                        = rat.String
	_ func(string) (api.Rat, api.Errno)           = rat.Parse
)

type binary struct {
	name string
	op   func(x, y api.Rat) (api.Rat, api.Errno)
	big  func(z, x, y *big.Rat) *big.Rat
}

func binaries() []binary {
	return []binary{
		{"Add", rat.Add, (*big.Rat).Add},
		{"Sub", rat.Sub, (*big.Rat).Sub},
		{"Mul", rat.Mul, (*big.Rat).Mul},
		{"Div", rat.Div, (*big.Rat).Quo},
	}
}

// integers are the numbers at which something changes: signs, limits, and the ends of the machine's integers.
func integers() []int {
	l := []int{0}
	for _, n := range []int{1, 2, 3, 4, 6, 7, 12, 35, 1000, 46341, 1<<15 - 1, 1 << 15, 1073741783, 1073741789, top - 1, top, top + 1, 2 * top, 3 * top, 1<<31 - 1, 1 << 32, 1<<32 + 1, 1 << 60, 1 << 62, math.MaxInt - 1, math.MaxInt} {
		l = append(l, n, -n)
	}
	return append(l, math.MinInt)
}

// raws are all pairs of these integers, valid or not.
func raws() []api.Rat {
	var l []api.Rat
	for _, n := range integers() {
		for _, d := range integers() {
			l = append(l, api.Rat{N: n, D: d})
		}
	}
	return l
}

// valids are the valid ones of them, by a definition that does not use the package.
func valids() []api.Rat {
	var l []api.Rat
	for _, x := range raws() {
		if valid(x) {
			l = append(l, x)
		}
	}
	return l
}

// invalids has one number for each condition that can fail.
func invalids() []api.Rat {
	return []api.Rat{{}, {N: 1}, {N: 1, D: -2}, {N: 0, D: 3}, {N: 2, D: 4}, {N: -2, D: 4}, {N: top + 1, D: 1}, {N: -top - 1, D: 1}, {N: 1, D: top + 1}, {N: math.MinInt, D: 1}, {N: 1, D: math.MinInt}, {N: math.MaxInt, D: math.MaxInt}}
}

func valid(x api.Rat) bool {
	if x.D < 1 || x.D > top || x.N < -top || x.N > top {
		return false
	}
	n, d := big.NewInt(int64(x.N)), big.NewInt(int64(x.D))
	return new(big.Int).GCD(nil, nil, n.Abs(n), d).Int64() == 1
}

func value(x api.Rat) *big.Rat { return big.NewRat(int64(x.N), int64(x.D)) }

// result is the result for a value, as the chapter's Terms define it.
func result(v *big.Rat) (api.Rat, api.Errno) {
	limit := big.NewInt(top)
	if v.Num().CmpAbs(limit) > 0 || v.Denom().Cmp(limit) > 0 {
		return api.Rat{}, api.ErrLong
	}
	return api.Rat{N: int(v.Num().Int64()), D: int(v.Denom().Int64())}, api.OK
}

// P1.1

func TestValid(t *testing.T) {
	for _, x := range []api.Rat{{N: 0, D: 1}, {N: 1, D: 1}, {N: -1, D: 1}, {N: 2, D: 3}, {N: -3, D: 2}, {N: top, D: 1}, {N: -top, D: 1}, {N: 1, D: top}, {N: -1, D: top}, {N: top, D: top - 1}, {N: top - 1, D: top}} {
		if !rat.Valid(x) {
			t.Error(x, "is valid")
		}
	}
	for _, x := range append(invalids(), api.Rat{N: top, D: top}, api.Rat{N: top, D: 2}, api.Rat{N: -6, D: 9}) {
		if rat.Valid(x) {
			t.Error(x, "is not valid")
		}
	}
	for _, x := range raws() {
		if rat.Valid(x) != valid(x) {
			t.Error(x, rat.Valid(x))
		}
	}
}

func TestMake(t *testing.T) {
	for _, c := range []struct {
		n, d int
		x    api.Rat
		e    api.Errno
	}{
		{6, -4, api.Rat{N: -3, D: 2}, api.OK},
		{-6, -4, api.Rat{N: 3, D: 2}, api.OK},
		{0, -9, api.Rat{N: 0, D: 1}, api.OK},
		{0, math.MinInt, api.Rat{N: 0, D: 1}, api.OK},
		{1, 0, api.Rat{}, api.ErrArg},
		{0, 0, api.Rat{}, api.ErrArg},
		{math.MinInt, 0, api.Rat{}, api.ErrArg},
		{1 << 31, 1, api.Rat{}, api.ErrLong},
		{1 << 31, 2, api.Rat{N: top, D: 1}, api.OK},
		{1 << 31, -2, api.Rat{N: -top, D: 1}, api.OK},
		{2, 1 << 31, api.Rat{N: 1, D: top}, api.OK},
		{1, top + 1, api.Rat{}, api.ErrLong},
		{top + 1, 1, api.Rat{}, api.ErrLong},
		{-top - 1, 1, api.Rat{}, api.ErrLong},
		{math.MinInt, math.MinInt, api.Rat{N: 1, D: 1}, api.OK},
		{math.MinInt, -1, api.Rat{}, api.ErrLong},
		{math.MinInt, 1 << 33, api.Rat{N: -top, D: 1}, api.OK},
		{math.MaxInt, math.MinInt, api.Rat{}, api.ErrLong},
		{math.MaxInt, -math.MaxInt, api.Rat{N: -1, D: 1}, api.OK},
	} {
		if x, e := rat.Make(c.n, c.d); x != c.x || e != c.e {
			t.Error(c, x, e)
		}
	}
	for _, r := range raws() {
		want, wantE := api.Rat{}, api.ErrArg
		if r.D != 0 {
			want, wantE = result(value(r))
		}
		if x, e := rat.Make(r.N, r.D); x != want || e != wantE {
			t.Error(r, x, e)
		}
	}
}

// P1.2

func TestOperations(t *testing.T) {
	l := valids()
	for _, b := range binaries() {
		for _, x := range l {
			for _, y := range l {
				want, wantE := api.Rat{}, api.ErrArg
				if b.name != "Div" || y.N != 0 {
					want, wantE = result(b.big(new(big.Rat), value(x), value(y)))
				}
				if z, e := b.op(x, y); z != want || e != wantE {
					t.Error(b.name, x, y, z, e)
				}
			}
		}
	}
}

func TestOperationsAtLimits(t *testing.T) {
	one, least, most, small := api.Rat{N: 1, D: 1}, api.Rat{N: -top, D: 1}, api.Rat{N: top, D: 1}, api.Rat{N: 1, D: top}
	for i, c := range []struct {
		op   func(x, y api.Rat) (api.Rat, api.Errno)
		x, y api.Rat
		want api.Rat
		e    api.Errno
	}{
		{rat.Add, api.Rat{N: 1, D: 2}, api.Rat{N: 1, D: 3}, api.Rat{N: 5, D: 6}, api.OK},
		{rat.Div, api.Rat{N: 1, D: 2}, api.Rat{N: 1, D: 3}, api.Rat{N: 3, D: 2}, api.OK},
		{rat.Add, api.Rat{N: top - 1, D: 1}, one, most, api.OK},
		{rat.Add, most, one, api.Rat{}, api.ErrLong},
		{rat.Add, most, least, api.Rat{N: 0, D: 1}, api.OK},
		{rat.Add, small, small, api.Rat{N: 1, D: top / 2}, api.OK},
		{rat.Add, most, small, api.Rat{}, api.ErrLong},
		{rat.Sub, least, one, api.Rat{}, api.ErrLong},
		{rat.Sub, one, small, api.Rat{N: top - 1, D: top}, api.OK},
		{rat.Mul, most, small, one, api.OK},
		{rat.Mul, least, most, api.Rat{}, api.ErrLong},
		{rat.Mul, small, small, api.Rat{}, api.ErrLong},
		{rat.Div, small, api.Rat{N: -2, D: 1}, api.Rat{}, api.ErrLong},
		{rat.Div, one, least, api.Rat{N: -1, D: top}, api.OK},
		{rat.Div, least, least, one, api.OK},
		{rat.Div, api.Rat{N: 0, D: 1}, least, api.Rat{N: 0, D: 1}, api.OK},
	} {
		if z, e := c.op(c.x, c.y); z != c.want || e != c.e {
			t.Error(i, z, e)
		}
	}
}

func TestOperationsInvalid(t *testing.T) {
	for _, b := range binaries() {
		for _, bad := range invalids() {
			// Values whose results would be too large, too: ErrArg precedes ErrLong (R2).
			for _, good := range []api.Rat{{N: 0, D: 1}, {N: 3, D: 4}, {N: top, D: 1}, {N: 1, D: top}} {
				if z, e := b.op(bad, good); z != (api.Rat{}) || e != api.ErrArg {
					t.Error(b.name, bad, good, z, e)
				}
				if z, e := b.op(good, bad); z != (api.Rat{}) || e != api.ErrArg {
					t.Error(b.name, good, bad, z, e)
				}
			}
			if z, e := b.op(bad, bad); z != (api.Rat{}) || e != api.ErrArg {
				t.Error(b.name, bad, z, e)
			}
		}
	}
	for _, x := range valids() {
		if z, e := rat.Div(x, api.Rat{N: 0, D: 1}); z != (api.Rat{}) || e != api.ErrArg {
			t.Error(x, z, e)
		}
	}
}

// P1.3

func TestCmp(t *testing.T) {
	if rat.Cmp(api.Rat{N: 1, D: 3}, api.Rat{N: 2, D: 5}) != -1 {
		t.Error("1/3 is less than 2/5")
	}
	l := valids()
	for _, x := range l {
		for _, y := range l {
			if rat.Cmp(x, y) != value(x).Cmp(value(y)) {
				t.Error(x, y, rat.Cmp(x, y))
			}
		}
		for _, bad := range invalids() {
			if rat.Cmp(x, bad) != 0 || rat.Cmp(bad, x) != 0 || rat.Cmp(bad, bad) != 0 {
				t.Error(x, bad)
			}
		}
	}
	// Neighbours that differ by less than a float64 of their size can tell.
	a, b := api.Rat{N: top - 1, D: top}, api.Rat{N: top - 2, D: top - 1}
	if rat.Cmp(a, b) != 1 || rat.Cmp(b, a) != -1 {
		t.Error(rat.Cmp(a, b), rat.Cmp(b, a))
	}
}

func TestFloorCeil(t *testing.T) {
	for _, c := range []struct {
		x           api.Rat
		floor, ceil int
	}{
		{api.Rat{N: -3, D: 2}, -2, -1},
		{api.Rat{N: 3, D: 2}, 1, 2},
		{api.Rat{N: -1, D: top}, -1, 0},
		{api.Rat{N: 1, D: top}, 0, 1},
		{api.Rat{N: 0, D: 1}, 0, 0},
		{api.Rat{N: top, D: 1}, top, top},
		{api.Rat{N: -top, D: 1}, -top, -top},
	} {
		if rat.Floor(c.x) != c.floor || rat.Ceil(c.x) != c.ceil {
			t.Error(c, rat.Floor(c.x), rat.Ceil(c.x))
		}
	}
	for _, x := range valids() {
		// Euclid's division rounds down for a positive divisor.
		n, d := big.NewInt(int64(x.N)), big.NewInt(int64(x.D))
		floor := int(new(big.Int).Div(n, d).Int64())
		ceil := -int(new(big.Int).Div(n.Neg(n), d).Int64())
		if rat.Floor(x) != floor || rat.Ceil(x) != ceil {
			t.Error(x, rat.Floor(x), rat.Ceil(x))
		}
	}
	for _, bad := range invalids() {
		if rat.Floor(bad) != 0 || rat.Ceil(bad) != 0 {
			t.Error(bad, rat.Floor(bad), rat.Ceil(bad))
		}
	}
}

// P1.4

func TestString(t *testing.T) {
	for _, c := range []struct {
		x    api.Rat
		want string
	}{
		{api.Rat{N: 0, D: 1}, "0"},
		{api.Rat{N: -17, D: 1}, "-17"},
		{api.Rat{N: 5, D: 6}, "5/6"},
		{api.Rat{N: -top, D: top - 1}, "-1073741824/1073741823"},
	} {
		if s := rat.String(c.x); s != c.want {
			t.Error(c, s)
		}
	}
	for _, x := range valids() {
		want := value(x).RatString()
		if s := rat.String(x); s != want {
			t.Error(x, s)
		}
		if y, e := rat.Parse(want); y != x || e != api.OK {
			t.Error(want, y, e)
		}
	}
	for _, bad := range invalids() {
		if s := rat.String(bad); s != "" {
			t.Error(bad, s)
		}
	}
}

// parse reads a text by its grammar.
func parse(s string) (api.Rat, api.Errno) {
	m := regexp.MustCompile(`^(0|-?[1-9][0-9]*)(?:/([1-9][0-9]*))?$`).FindStringSubmatch(s)
	if m == nil || m[2] == "1" {
		return api.Rat{}, api.ErrArg
	}
	n, ok := new(big.Int).SetString(m[1], 10)
	d, okD := new(big.Int).SetString("0"+m[2], 10)
	if m[2] == "" {
		d.SetInt64(1)
	}
	limit := big.NewInt(top)
	if !ok || !okD || n.CmpAbs(limit) > 0 || d.Cmp(limit) > 0 {
		return api.Rat{}, api.ErrArg
	}
	x := api.Rat{N: int(n.Int64()), D: int(d.Int64())}
	if !valid(x) {
		return api.Rat{}, api.ErrArg
	}
	return x, api.OK
}

func TestParse(t *testing.T) {
	for _, c := range []struct {
		s    string
		want api.Rat
	}{
		{"0", api.Rat{N: 0, D: 1}},
		{"5/6", api.Rat{N: 5, D: 6}},
		{"-5/6", api.Rat{N: -5, D: 6}},
		{"1073741824", api.Rat{N: top, D: 1}},
		{"-1073741824", api.Rat{N: -top, D: 1}},
		{"1/1073741824", api.Rat{N: 1, D: top}},
		{"1073741823/1073741824", api.Rat{N: top - 1, D: top}},
	} {
		if x, e := rat.Parse(c.s); x != c.want || e != api.OK {
			t.Error(c, x, e)
		}
	}
	for _, s := range []string{
		"", "-", "/", "5/", "/6", "--5", "5//6", "5/6/", "5/6/7", "4/6", "6/4", "-0", "0/2", "0/1", "1/1", "-1/1", "5/-6", "-5/-6", "+5", "5/+6", "05", "-05", "5/06", "00", "1/0", "0/0",
		"1073741825", "-1073741825", "1/1073741825", "4294967297", "18446744073709551617", "1/18446744073709551619", strings.Repeat("1", 5000), "0." + strings.Repeat("0", 5000),
		" 5", "5 ", "5 /6", "5\n", "1_0", "0x1", "1e3", "1.0", "x", "5\x00", "\x005", "5\xff", "\xff", "\u0665", "\uff15", "\u22125", "5\u20446",
	} {
		if x, e := rat.Parse(s); x != (api.Rat{}) || e != api.ErrArg {
			t.Errorf("%q %v %d", s, x, e)
		}
	}
}

// TestParseAll tries all short texts of the bytes that matter.
func TestParseAll(t *testing.T) {
	const alphabet = "-+/0126 "
	var try func(s string)
	try = func(s string) {
		want, wantE := parse(s)
		if x, e := rat.Parse(s); x != want || e != wantE {
			t.Errorf("%q %v %d", s, x, e)
		}
		if len(s) == 5 {
			return
		}
		for _, b := range alphabet {
			try(s + string(b))
		}
	}
	try("")
	for _, n := range integers() {
		for _, d := range integers() {
			s := strconv.Itoa(n) + "/" + strconv.Itoa(d)
			want, wantE := parse(s)
			if x, e := rat.Parse(s); x != want || e != wantE {
				t.Error(s, x, e)
			}
		}
	}
}

// P1.5

// law reports a difference between two results unless one of them is an error.
func law(t *testing.T, name string, l, r func() (api.Rat, api.Errno)) {
	t.Helper()
	x, e := l()
	y, f := r()
	if e == api.OK && f == api.OK && x != y {
		t.Error(name, x, y)
	}
}

// then applies an operation to an earlier result unless that is an error.
func then(op func(x, y api.Rat) (api.Rat, api.Errno), x api.Rat, e api.Errno, y api.Rat) (api.Rat, api.Errno) {
	if e != api.OK {
		return api.Rat{}, e
	}
	return op(x, y)
}

// samples are few enough that all triples can be tried.
func samples() []api.Rat {
	l := []api.Rat{{N: top, D: 1}, {N: -top, D: 1}, {N: 1, D: top}, {N: top - 1, D: top}}
	for n := -5; n <= 5; n++ {
		for d := 1; d <= 4; d++ {
			if x := (api.Rat{N: n, D: d}); valid(x) {
				l = append(l, x)
			}
		}
	}
	return l
}

func TestLawsOfPairs(t *testing.T) {
	for _, x := range samples() {
		for _, y := range samples() {
			for _, op := range []func(x, y api.Rat) (api.Rat, api.Errno){rat.Add, rat.Mul} {
				z, e := op(x, y)
				if w, f := op(y, x); z != w || e != f {
					t.Error("commutative", x, y, z, w)
				}
			}
			self := func() (api.Rat, api.Errno) { return x, api.OK }
			law(t, "Sub undoes Add", self, func() (api.Rat, api.Errno) { z, e := rat.Add(x, y); return then(rat.Sub, z, e, y) })
			law(t, "Add undoes Sub", self, func() (api.Rat, api.Errno) { z, e := rat.Sub(x, y); return then(rat.Add, z, e, y) })
			law(t, "Div undoes Mul", self, func() (api.Rat, api.Errno) { z, e := rat.Mul(x, y); return then(rat.Div, z, e, y) })
			law(t, "Mul undoes Div", self, func() (api.Rat, api.Errno) { z, e := rat.Div(x, y); return then(rat.Mul, z, e, y) })
			if z, e := rat.Sub(x, y); e == api.OK && rat.Cmp(x, y) != rat.Cmp(z, api.Rat{N: 0, D: 1}) {
				t.Error("order and difference", x, y, z)
			}
			if rat.Cmp(x, y) != -rat.Cmp(y, x) || (rat.Cmp(x, y) == 0) != (x == y) {
				t.Error("order", x, y)
			}
		}
	}
}

func TestLawsOfTriples(t *testing.T) {
	for _, x := range samples() {
		for _, y := range samples() {
			for _, z := range samples() {
				for _, op := range []func(x, y api.Rat) (api.Rat, api.Errno){rat.Add, rat.Mul} {
					law(t, "associative", func() (api.Rat, api.Errno) { w, e := op(x, y); return then(op, w, e, z) }, func() (api.Rat, api.Errno) { w, e := op(y, z); return then(op, w, e, x) })
				}
				law(t, "distributive", func() (api.Rat, api.Errno) { w, e := rat.Add(y, z); return then(rat.Mul, w, e, x) }, func() (api.Rat, api.Errno) {
					a, e := rat.Mul(x, y)
					b, f := rat.Mul(x, z)
					return then(rat.Add, a, max(e, f), b)
				})
				if rat.Cmp(x, y) <= 0 && rat.Cmp(y, z) <= 0 && rat.Cmp(x, z) > 0 {
					t.Error("transitive", x, y, z)
				}
			}
		}
	}
}

// R1, R2, R7

// TestArbitrary gives arbitrary contents to every function: none panics, each error comes with the zero number, each number is valid.
func TestArbitrary(t *testing.T) {
	l := raws()
	for i, x := range l {
		y := l[(i*7919+1)%len(l)]
		rat.Cmp(x, y)
		rat.Floor(x)
		rat.Ceil(x)
		rat.String(x)
		for _, b := range binaries() {
			z, e := b.op(x, y)
			if (e == api.OK) != rat.Valid(z) || e != api.OK && z != (api.Rat{}) {
				t.Error(b.name, x, y, z, e)
			}
			if (e == api.ErrArg) != (!rat.Valid(x) || !rat.Valid(y) || b.name == "Div" && y.N == 0) {
				t.Error(b.name, x, y, e)
			}
		}
	}
}

// R6

// TestBytes puts every byte at every place of a text: only digits at some places and a minus sign in front make texts of numbers.
func TestBytes(t *testing.T) {
	for b := range 256 {
		for at := range 4 {
			s := "5/6"[:at] + string([]byte{byte(b)}) + "5/6"[at:]
			want, wantE := parse(s)
			if x, e := rat.Parse(s); x != want || e != wantE {
				t.Errorf("%q %v %d", s, x, e)
			}
		}
	}
}

// R4

// TestRepeated compares results of many calls at the same time with those of the same calls one after the other.
func TestRepeated(t *testing.T) {
	run := func() string {
		var out strings.Builder
		for _, x := range samples() {
			for _, y := range samples() {
				for _, b := range binaries() {
					z, e := b.op(x, y)
					w, f := rat.Parse(rat.String(z))
					out.WriteString(rat.String(z) + " " + strconv.Itoa(int(e)) + " " + rat.String(w) + " " + strconv.Itoa(int(f)) + ";")
				}
			}
		}
		return out.String()
	}
	want := run()
	var all sync.WaitGroup
	for range 4 {
		all.Go(func() {
			if run() != want {
				t.Error("results differ")
			}
		})
	}
	all.Wait()
}
