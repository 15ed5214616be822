package memory_test

import (
	"math/rand"
	"slices"
	"testing"

	"nacelle/api"
	"nacelle/memory"
)

// P11.1

func TestLayout(t *testing.T) {
	for _, c := range []struct {
		m    api.Module
		want []api.Region
		e    api.Errno
	}{
		{module(32, 5, 0, 8, 3), []api.Region{reg(0, 0, 5), reg(1, 8, 0), reg(2, 8, 8), reg(3, 16, 3)}, api.OK},
		{module(19, 5, 0, 8, 3), []api.Region{reg(0, 0, 5), reg(1, 8, 0), reg(2, 8, 8), reg(3, 16, 3)}, api.OK},
		{module(18, 5, 0, 8, 3), nil, api.ErrFull},
		{module(0), nil, api.OK},
		{module(4096), nil, api.OK},
		{module(-1), nil, api.ErrArg},
		{module(4097), nil, api.ErrArg},
		{module(0, 0), []api.Region{reg(0, 0, 0)}, api.OK},
		{module(0, 1), nil, api.ErrFull},
		{module(1, 1), []api.Region{reg(0, 0, 1)}, api.OK},
		{module(7, 7, 0), nil, api.ErrFull},
		{module(8, 7, 0), []api.Region{reg(0, 0, 7), reg(1, 8, 0)}, api.OK},
		{module(8, 8, 0), []api.Region{reg(0, 0, 8), reg(1, 8, 0)}, api.OK},
		{module(16, 9, 0), []api.Region{reg(0, 0, 9), reg(1, 16, 0)}, api.OK},
		{module(4096, 4096), []api.Region{reg(0, 0, 4096)}, api.OK},
		{module(4095, 4096), nil, api.ErrFull},
		{module(4096, 4097), nil, api.ErrArg},
		{module(4096, 4089, 0, 0), []api.Region{reg(0, 0, 4089), reg(1, 4096, 0), reg(2, 4096, 0)}, api.OK},
		{module(4096, 4096, 4096, 4096, 4096, 4096, 4096), nil, api.ErrFull},
		{module(41, 1, 1, 1, 1, 1, 1), []api.Region{reg(0, 0, 1), reg(1, 8, 1), reg(2, 16, 1), reg(3, 24, 1), reg(4, 32, 1), reg(5, 40, 1)}, api.OK},
		{module(40, 1, 1, 1, 1, 1, 1), nil, api.ErrFull},
		{module(4096, 1, 1, 1, 1, 1, 1, 1), nil, api.ErrArg},
		{module(4096, 0, 0, 0, 0, 0, 0, 0), nil, api.ErrArg},
		{module(8, 9, -1), nil, api.ErrArg},
		{module(-1, 9), nil, api.ErrArg},
	} {
		l, e := memory.Layout(c.m)
		if !slices.Equal(l, c.want) || e != c.e {
			t.Errorf("%v: %v %d, but not %v %d", c.m, l, e, c.want, c.e)
		}
	}
}

func checkLayout(t *testing.T, m api.Module) {
	t.Helper()
	l, e := memory.Layout(m)
	if want, f := theLayout(m); !slices.Equal(l, want) || e != f {
		t.Errorf("%v: %v %d, but not %v %d", m, l, e, want, f)
	}
	if e == api.OK && !memory.Valid(l, m.Mem) {
		t.Errorf("%v: %v is not valid", m, l)
	}
}

// TestSmallLayouts has all modules of up to three partitions with sizes from -1 to 17.
func TestSmallLayouts(t *testing.T) {
	var sizes []int
	for n := -1; n <= 17; n++ {
		sizes = append(sizes, n)
	}
	for n := range 4 {
		for l := range lists(sizes, n) {
			for mem := -1; mem < 70; mem++ {
				checkLayout(t, module(mem, l...))
			}
		}
	}
}

// TestFullLayouts has memories of exactly the size that any partitions need, and of one byte less.
func TestFullLayouts(t *testing.T) {
	r := rand.New(rand.NewSource(1101))
	for range 20000 {
		m := module(api.MaxMem)
		for range 1 + r.Intn(6) {
			m.Parts = append(m.Parts, api.Part{Mem: r.Intn(1 + api.MaxMem>>r.Intn(12))})
		}
		checkLayout(t, m)
		l, e := memory.Layout(m)
		if e != api.OK {
			continue
		}
		last := l[len(l)-1]
		m.Mem = last.Base + last.Size
		if _, e := memory.Layout(m); e != api.OK {
			t.Errorf("%v: %d", m, e)
		}
		m.Mem--
		want := api.ErrFull
		if m.Mem < 0 {
			want = api.ErrArg
		}
		if l, e := memory.Layout(m); len(l) != 0 || e != want {
			t.Errorf("%v: %v %d", m, l, e)
		}
	}
}

// TestLayoutExtremes has every size of a module at a time at its limits and beyond, with every number of partitions.
func TestLayoutExtremes(t *testing.T) {
	for n := range 12 {
		for _, x := range extremes {
			for i := range n {
				for _, mem := range []int{0, 8, api.MaxMem} {
					m := module(mem, make([]int, n)...)
					m.Parts[i].Mem = x
					checkLayout(t, m)
				}
			}
			checkLayout(t, module(x, make([]int, n)...))
		}
	}
	checkLayout(t, module(api.MaxMem, make([]int, 100000)...))
}

// TestOtherFields: a layout does not depend on anything but sizes.
func TestOtherFields(t *testing.T) {
	m := module(19, 5, 0, 8, 3)
	want, _ := memory.Layout(m)
	m.Name, m.Frame = "not a name", -5
	for i := range m.Parts {
		m.Parts[i] = api.Part{Name: "", Period: -1, Length: 1 << 40, Mem: m.Parts[i].Mem, Semas: []int{-3}, Events: -1, Boards: 99, Bufs: make([]int, 20), Ports: make([]api.Port, 20), Procs: make([]api.Proc, 20)}
	}
	if l, e := memory.Layout(m); !slices.Equal(l, want) || len(l) != 4 || e != api.OK {
		t.Error(l, e)
	}
}

func TestValid(t *testing.T) {
	six := []api.Region{reg(0, 0, 1), reg(1, 8, 1), reg(2, 16, 1), reg(3, 24, 1), reg(4, 32, 1), reg(5, 40, 1)}
	for _, c := range []struct {
		l    []api.Region
		mem  int
		want bool
	}{
		{nil, 0, true},
		{nil, api.MaxMem, true},
		{nil, -1, false},
		{nil, api.MaxMem + 1, false},
		{six, 41, true},
		{six, 40, false},
		{append(slices.Clone(six), reg(6, 48, 0)), 100, false},
		{six[1:], 41, false},
		{[]api.Region{reg(0, 0, 8)}, 8, true},
		{[]api.Region{reg(0, 0, 9)}, 8, false},
		{[]api.Region{reg(0, 0, 0)}, 0, true},
		{[]api.Region{reg(0, 8, 0)}, 8, true},
		{[]api.Region{reg(0, 8, 0)}, 7, false},
		{[]api.Region{reg(0, -8, 8)}, 8, false},
		{[]api.Region{reg(0, -8, 16)}, 8, false},
		{[]api.Region{reg(0, 4, 4)}, 8, false},
		{[]api.Region{reg(0, 0, -1)}, 8, false},
		{[]api.Region{reg(0, 8, -8)}, 8, false},
		{[]api.Region{reg(1, 0, 4)}, 8, false},
		{[]api.Region{reg(-1, 0, 4)}, 8, false},
		{[]api.Region{reg(1, 0, 4), reg(0, 8, 4)}, 16, false},
		{[]api.Region{reg(0, 0, 4), reg(0, 8, 4)}, 16, false},
		{[]api.Region{reg(0, 8, 8), reg(1, 0, 8)}, 16, true},
		{[]api.Region{reg(0, 8, 8), reg(1, 0, 9)}, 16, false},
		{[]api.Region{reg(0, 0, 9), reg(1, 8, 8)}, 16, false},
		{[]api.Region{reg(0, 0, 4), reg(1, 0, 4)}, 16, false},
		{[]api.Region{reg(0, 0, 16), reg(1, 8, 1)}, 16, false},
		{[]api.Region{reg(0, 8, 1), reg(1, 0, 16)}, 16, false},
		{[]api.Region{reg(0, 0, 16), reg(1, 8, 0)}, 16, true},
		{[]api.Region{reg(0, 8, 0), reg(1, 0, 16)}, 16, true},
		{[]api.Region{reg(0, 8, 0), reg(1, 8, 0)}, 16, true},
		{[]api.Region{reg(0, 0, 8), reg(1, 8, 8), reg(2, 0, 1)}, 16, false},
		{[]api.Region{reg(0, 0, 0), reg(1, 0, 8), reg(2, 0, 1)}, 16, false},
		{[]api.Region{reg(0, 0, api.MaxMem)}, api.MaxMem, true},
		{[]api.Region{reg(0, 1<<63-8, 8)}, api.MaxMem, false},
		{[]api.Region{reg(0, 8, 1<<63-1)}, api.MaxMem, false},
		{[]api.Region{reg(0, 1<<62, 1<<62), reg(1, 1<<62, 1<<62)}, 8, false},
	} {
		if got := memory.Valid(c.l, c.mem); got != c.want {
			t.Errorf("%v %d: %v", c.l, c.mem, got)
		}
	}
}

func checkValid(t *testing.T, l []api.Region, mem int) {
	t.Helper()
	if got := memory.Valid(l, mem); got != isValid(l, mem) {
		t.Errorf("%v %d: %v", l, mem, got)
	}
}

// TestSmallValid has all lists of up to two regions of small numbers, and all of three with fewer bases and sizes.
func TestSmallValid(t *testing.T) {
	var many, few []api.Region
	for part := range 4 {
		for base := -9; base <= 25; base++ {
			for _, size := range []int{-1, 0, 1, 7, 8, 9, 16, 17} {
				if base%4 == 0 || base%8 == 1 || base%8 == 7 {
					many = append(many, reg(part-1, base, size))
				}
				if base%8 == 0 && base >= 0 && part > 0 && size >= 0 {
					few = append(few, reg(part-1, base, size))
				}
			}
		}
	}
	for n := range 3 {
		for l := range lists(many, n) {
			checkValid(t, l, 24)
			checkValid(t, l, 25)
		}
	}
	for l := range lists(few, 3) {
		for _, mem := range []int{8, 24, 32, 40} {
			checkValid(t, l, mem)
		}
	}
}

// TestChangedValid has valid regions in which at most one number is changed.
func TestChangedValid(t *testing.T) {
	r := rand.New(rand.NewSource(1102))
	valid := 0
	for range 100000 {
		l, mem := someLayout(r)
		if len(l) > 0 {
			i := r.Intn(len(l))
			switch r.Intn(5) {
			case 0:
				l[i].Part = someNumber(r)
			case 1:
				l[i].Base += 8 * (r.Intn(9) - 4)
			case 2:
				l[i].Base = someNumber(r)
			case 3:
				l[i].Size = someNumber(r)
			}
		}
		checkValid(t, l, mem)
		if memory.Valid(l, mem) {
			valid++
		}
	}
	if valid < 20000 || valid > 80000 {
		t.Error(valid)
	}
}

// TestValidExtremes has numbers at which computations of ints go wrong.
func TestValidExtremes(t *testing.T) {
	for l := range lists(extremes, 3) {
		checkValid(t, []api.Region{reg(0, l[0], l[1])}, l[2])
		checkValid(t, []api.Region{reg(0, 0, 8), reg(1, l[0], l[1])}, l[2])
		checkValid(t, []api.Region{reg(0, l[0], l[1]), reg(1, l[1], l[0])}, l[2])
		checkValid(t, []api.Region{reg(l[0], 0, l[1])}, l[2])
	}
	for n := range 10 {
		l := make([]api.Region, n)
		for i := range l {
			l[i].Part = i
		}
		for _, mem := range extremes {
			checkValid(t, l, mem)
		}
	}
	checkValid(t, make([]api.Region, 100000), 0)
}
