package memory_test

import (
	"math"
	"math/rand"
	"testing"

	"nacelle/api"
	"nacelle/memory"
)

// P11.2

func TestTranslate(t *testing.T) {
	layout := []api.Region{reg(0, 0, 5), reg(1, 8, 0), reg(2, 8, 8), reg(3, 16, 3)}
	twice := []api.Region{reg(7, -5, 3), reg(-2, 100, -4), reg(7, 50, 9), reg(-2, 0, 9)}
	for _, c := range []struct {
		l              []api.Region
		part, addr, at int
		e              api.Errno
	}{
		{layout, 2, 7, 15, api.OK},
		{layout, 2, 8, 0, memory.ErrFault},
		{layout, 4, 0, 0, api.ErrNone},
		{layout, 0, 0, 0, api.OK},
		{layout, 0, 4, 4, api.OK},
		{layout, 0, 5, 0, memory.ErrFault},
		{layout, 0, -1, 0, memory.ErrFault},
		{layout, 1, 0, 0, memory.ErrFault},
		{layout, 1, -1, 0, memory.ErrFault},
		{layout, 3, 2, 18, api.OK},
		{layout, 3, math.MaxInt, 0, memory.ErrFault},
		{layout, 3, math.MinInt, 0, memory.ErrFault},
		{layout, -1, 0, 0, api.ErrNone},
		{layout, 4, -1, 0, api.ErrNone},
		{layout, math.MinInt, math.MinInt, 0, api.ErrNone},
		{nil, 0, 0, 0, api.ErrNone},
		{twice, 7, 0, -5, api.OK},
		{twice, 7, 2, -3, api.OK},
		{twice, 7, 3, 0, memory.ErrFault},
		{twice, -2, 0, 0, memory.ErrFault},
		{twice, -2, -4, 0, memory.ErrFault},
		{twice, -2, -1, 0, memory.ErrFault},
		{[]api.Region{reg(0, big30, big30)}, 0, big30 - 1, 2*big30 - 1, api.OK},
		{[]api.Region{reg(0, big30, big30)}, 0, big30, 0, memory.ErrFault},
		{[]api.Region{reg(0, -big30, big30)}, 0, 0, -big30, api.OK},
		{[]api.Region{reg(0, -big30, -big30)}, 0, 0, 0, memory.ErrFault},
	} {
		if at, e := memory.Translate(c.l, c.part, c.addr); at != c.at || e != c.e {
			t.Errorf("%v %d %d: %d %d, but not %d %d", c.l, c.part, c.addr, at, e, c.at, c.e)
		}
	}
}

func TestOwner(t *testing.T) {
	layout := []api.Region{reg(0, 0, 5), reg(1, 8, 0), reg(2, 8, 8), reg(3, 16, 3)}
	nested := []api.Region{reg(5, 4, 0), reg(9, 4, 2), reg(-3, -2, 20), reg(9, -100, 200), reg(1, 500, -90)}
	for _, c := range []struct {
		l              []api.Region
		at, part, addr int
		ok             bool
	}{
		{layout, 17, 3, 1, true},
		{layout, 5, 0, 0, false},
		{layout, 7, 0, 0, false},
		{layout, 0, 0, 0, true},
		{layout, 4, 0, 4, true},
		{layout, 8, 2, 0, true},
		{layout, 15, 2, 7, true},
		{layout, 16, 3, 0, true},
		{layout, 18, 3, 2, true},
		{layout, 19, 0, 0, false},
		{layout, -1, 0, 0, false},
		{layout, math.MaxInt, 0, 0, false},
		{layout, math.MinInt, 0, 0, false},
		{nil, 0, 0, 0, false},
		{nested, 3, -3, 5, true},
		{nested, 4, 9, 0, true},
		{nested, 5, 9, 1, true},
		{nested, 6, -3, 8, true},
		{nested, -2, -3, 0, true},
		{nested, -3, 9, 97, true},
		{nested, 17, -3, 19, true},
		{nested, 18, 9, 118, true},
		{nested, -100, 9, 0, true},
		{nested, -101, 0, 0, false},
		{nested, 99, 9, 199, true},
		{nested, 100, 0, 0, false},
		{nested, 450, 0, 0, false},
		{nested, 500, 0, 0, false},
		{[]api.Region{reg(0, big30, big30)}, 2*big30 - 1, 0, big30 - 1, true},
		{[]api.Region{reg(0, big30, big30)}, 2 * big30, 0, 0, false},
		{[]api.Region{reg(0, -big30, big30)}, -1, 0, big30 - 1, true},
		{[]api.Region{reg(0, -big30, big30)}, 0, 0, 0, false},
		{[]api.Region{reg(0, -big30, big30)}, math.MaxInt, 0, 0, false},
		{[]api.Region{reg(0, big30, -big30)}, math.MinInt, 0, 0, false},
		{[]api.Region{reg(0, big30, -big30)}, big30 - 1, 0, 0, false},
	} {
		if part, addr, ok := memory.Owner(c.l, c.at); part != c.part || addr != c.addr || ok != c.ok {
			t.Errorf("%v %d: %d %d %v, but not %d %d %v", c.l, c.at, part, addr, ok, c.part, c.addr, c.ok)
		}
	}
}

func checkTranslate(t *testing.T, l []api.Region, part, addr int) {
	t.Helper()
	at, e := memory.Translate(l, part, addr)
	if want, f := translated(l, part, addr); at != want || e != f {
		t.Errorf("%v %d %d: %d %d, but not %d %d", l, part, addr, at, e, want, f)
	}
}

func checkOwner(t *testing.T, l []api.Region, at int) {
	t.Helper()
	part, addr, ok := memory.Owner(l, at)
	if p, a, o := owner(l, at); part != p || addr != a || ok != o {
		t.Errorf("%v %d: %d %d %v, but not %d %d %v", l, at, part, addr, ok, p, a, o)
	}
}

// TestSmallRegions has all lists of up to three regions of small numbers, with all parts and numbers near them.
func TestSmallRegions(t *testing.T) {
	var all []api.Region
	for _, part := range []int{-1, 0, 1} {
		for _, base := range []int{-2, 0, 3} {
			for _, size := range []int{-2, 0, 1, 4} {
				all = append(all, reg(part, base, size))
			}
		}
	}
	for n := range 4 {
		for l := range lists(all, n) {
			for x := -5; x <= 8; x++ {
				checkOwner(t, l, x)
				for part := -2; part <= 2; part++ {
					checkTranslate(t, l, part, x)
				}
			}
		}
	}
}

// TestManyRegions has more regions than a module.
func TestManyRegions(t *testing.T) {
	r := rand.New(rand.NewSource(1103))
	for range 300 {
		var l []api.Region
		for range r.Intn(30) {
			l = append(l, someRegions(r)...)
		}
		for x := -20; x < 90; x++ {
			checkOwner(t, l, x)
			checkTranslate(t, l, x%12, r.Intn(30)-3)
		}
	}
}

// TestLargeRegions has a Base and a Size of up to 2^30 or down to -2^30, and any other numbers.
func TestLargeRegions(t *testing.T) {
	numbers := []int{-big30, -big30 + 1, -big30 / 2, -1, 0, 1, big30 / 2, big30 - 1, big30}
	for _, base := range numbers {
		for _, size := range numbers {
			for _, x := range extremes {
				l := []api.Region{reg(x, base, size), reg(x, 0, 9), reg(1, size, base)}
				for _, y := range append([]int{base - 1, base, base + 1, base + size - 1, base + size, size - 1, size, size + 1}, extremes...) {
					checkOwner(t, l, y)
					checkTranslate(t, l, x, y)
					checkTranslate(t, l, y, x)
				}
			}
		}
	}
}
