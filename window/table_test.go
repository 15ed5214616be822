package window_test

import (
	"math/rand"
	"slices"
	"testing"

	"nacelle/api"
	"nacelle/window"
)

// P12.2

func TestTable(t *testing.T) {
	for _, c := range []struct {
		m       api.Module
		offsets []int
		want    []api.Window
		e       api.Errno
	}{
		{module(12, 4, 1, 6, 1), []int{0, 1}, []api.Window{win(0, 0, 1), win(1, 1, 1), win(0, 4, 1), win(1, 7, 1), win(0, 8, 1)}, api.OK},
		{module(12, 6, 1, 4, 1), []int{1, 0}, []api.Window{win(1, 0, 1), win(0, 1, 1), win(1, 4, 1), win(0, 7, 1), win(1, 8, 1)}, api.OK},
		{module(12, 4, 1, 6, 1), []int{0, 2}, nil, window.ErrClash},
		{module(12, 4, 2, 6, 1), []int{0, 1}, nil, window.ErrClash},
		{module(12, 4, 1, 6, 1), []int{3, 0}, []api.Window{win(1, 0, 1), win(0, 3, 1), win(1, 6, 1), win(0, 7, 1), win(0, 11, 1)}, api.OK},
		{module(12, 4, 1, 6, 1), []int{4, 0}, nil, api.ErrArg},
		{module(12, 4, 1, 6, 1), []int{0, -1}, nil, api.ErrArg},
		{module(12, 4, 1, 6, 1), []int{0}, nil, api.ErrArg},
		{module(12, 4, 1, 6, 1), []int{0, 1, 2}, nil, api.ErrArg},
		{module(12, 4, 1, 6, 1), nil, nil, api.ErrArg},
		{module(12), nil, nil, api.OK},
		{module(12), []int{0}, nil, api.ErrArg},
		{module(1, 1, 1), []int{0}, []api.Window{win(0, 0, 1)}, api.OK},
		{module(1, 1, 1, 1, 1), []int{0, 0}, nil, window.ErrClash},
		{module(2, 1, 1), []int{0}, []api.Window{win(0, 0, 1), win(0, 1, 1)}, api.OK},
		{module(2, 2, 1, 2, 1), []int{1, 0}, []api.Window{win(1, 0, 1), win(0, 1, 1)}, api.OK},
		{module(2, 2, 1, 2, 1, 2, 1), []int{1, 0, 0}, nil, window.ErrClash},
		{module(2, 2, 1, 2, 1, 2, 1), []int{0, 1, 0}, nil, window.ErrClash},
		{module(2, 2, 1, 2, 1, 2, 1), []int{0, 0, 2}, nil, api.ErrArg},
		{module(0), nil, nil, api.ErrArg},
		{module(-1), nil, nil, api.ErrArg},
		{module(1), nil, nil, api.OK},
		{module(2000), nil, nil, api.OK},
		{module(2001), nil, nil, api.ErrArg},
		{module(2000, 2000, 2000), []int{0}, []api.Window{win(0, 0, 2000)}, api.OK},
		{module(2000, 2000, 1999, 1000, 1), []int{0, 999}, nil, window.ErrClash},
		{module(12, 0, 1), []int{0}, nil, api.ErrArg},
		{module(12, -4, 1), []int{0}, nil, api.ErrArg},
		{module(12, 5, 1), []int{0}, nil, api.ErrArg},
		{module(12, 24, 1), []int{0}, nil, api.ErrArg},
		{module(12, 4, 0), []int{0}, nil, api.ErrArg},
		{module(12, 4, -1), []int{0}, nil, api.ErrArg},
		{module(12, 4, 5), []int{0}, nil, api.ErrArg},
		{module(12, 4, 4), []int{0}, []api.Window{win(0, 0, 4), win(0, 4, 4), win(0, 8, 4)}, api.OK},
		{module(12, 4, 4, 12, 1), []int{0, 0}, nil, window.ErrClash},
		{module(12, 4, 3, 12, 1), []int{0, 11}, []api.Window{win(0, 0, 3), win(0, 4, 3), win(0, 8, 3), win(1, 11, 1)}, api.OK},
		{module(12, 4, 3, 12, 2), []int{0, 10}, nil, window.ErrClash},
		{module(6, 6, 1, 6, 1, 6, 1, 6, 1, 6, 1, 6, 1), []int{5, 4, 3, 2, 1, 0}, []api.Window{win(5, 0, 1), win(4, 1, 1), win(3, 2, 1), win(2, 3, 1), win(1, 4, 1), win(0, 5, 1)}, api.OK},
		{module(7, 7, 1, 7, 1, 7, 1, 7, 1, 7, 1, 7, 1, 7, 1), []int{6, 5, 4, 3, 2, 1, 0}, nil, api.ErrArg},
	} {
		table, e := window.Table(c.m, c.offsets)
		if !slices.Equal(table, c.want) || e != c.e {
			t.Errorf("%v %v: %v %d, but not %v %d", c.m, c.offsets, table, e, c.want, c.e)
		}
		checkTable(t, c.m, c.offsets)
	}
}

func TestSlots(t *testing.T) {
	for _, c := range []struct {
		m       api.Module
		offsets []int
		want    []api.Slot
		e       api.Errno
	}{
		{module(12, 4, 1, 6, 2), []int{3, 4}, []api.Slot{slot(3, 4, 1), slot(4, 6, 2)}, api.OK},
		{module(12, 4, 1, 4, 1), []int{0, 0}, []api.Slot{slot(0, 4, 1), slot(0, 4, 1)}, api.OK},
		{module(12, 4, 1, 6, 2), []int{3, 5}, nil, api.ErrArg},
		{module(12, 4, 1, 6, 2), []int{-1, 4}, nil, api.ErrArg},
		{module(12, 4, 1, 6, 2), []int{3}, nil, api.ErrArg},
		{module(12, 4, 1, 6, 2), []int{3, 4, 0}, nil, api.ErrArg},
		{module(10, 4, 1), []int{3}, nil, api.ErrArg},
		{module(10), nil, nil, api.OK},
		{module(0), nil, nil, api.ErrArg},
	} {
		l, e := window.Slots(c.m, c.offsets)
		if !slices.Equal(l, c.want) || e != c.e {
			t.Errorf("%v %v: %v %d, but not %v %d", c.m, c.offsets, l, e, c.want, c.e)
		}
	}
}

// TestSmallTables has all modules of up to two partitions with frames of at most 6, and all offsets, also those that do not fit.
func TestSmallTables(t *testing.T) {
	var numbers []int
	for n := -1; n <= 6; n++ {
		numbers = append(numbers, n)
	}
	for _, frame := range []int{0, 1, 4, 6} {
		for n := range 3 {
			for times := range lists(numbers, 2*n) {
				for offsets := range lists(numbers[:min(8, frame+2)], n) {
					checkTable(t, module(frame, times...), offsets)
				}
			}
		}
	}
}

// TestThreeTables has all modules of three partitions with a frame of 4.
func TestThreeTables(t *testing.T) {
	var l []api.Slot
	for _, period := range []int{1, 2, 4} {
		for length := 1; length <= period; length++ {
			for offset := range period - length + 1 {
				l = append(l, slot(offset, period, length))
			}
		}
	}
	tables := 0
	for s := range lists(l, 3) {
		m := module(4, s[0].Period, s[0].Length, s[1].Period, s[1].Length, s[2].Period, s[2].Length)
		offsets := []int{s[0].Offset, s[1].Offset, s[2].Offset}
		checkTable(t, m, offsets)
		if _, e := window.Table(m, offsets); e == api.OK {
			tables++
		}
	}
	if tables < 50 {
		t.Error("only", tables, "tables")
	}
}

// TestSomeTables has modules up to the limits.
func TestSomeTables(t *testing.T) {
	r := rand.New(rand.NewSource(1203))
	tables, clashes := 0, 0
	for range 5000 {
		m, offsets := someModule(r)
		checkTable(t, m, offsets)
		switch _, e := window.Table(m, offsets); e {
		case api.OK:
			tables++
		case window.ErrClash:
			clashes++
		}
	}
	if tables < 1000 || clashes < 1000 {
		t.Error(tables, "tables,", clashes, "clashes")
	}
}

// TestFullTable has as many windows as ticks, of as many partitions as there may be.
func TestFullTable(t *testing.T) {
	m, offsets := module(1998, 6, 1, 6, 1, 6, 1, 6, 1, 6, 1, 6, 1), []int{3, 5, 1, 0, 2, 4}
	checkTable(t, m, offsets)
	if table, e := window.Table(m, offsets); len(table) != 1998 || e != api.OK || !window.Fits(m, table) {
		t.Error(len(table), e)
	}
}

// TestTableExtremes has a number at a time at its limits and beyond, in every partition, and every number of partitions and of offsets.
func TestTableExtremes(t *testing.T) {
	for n := range 9 {
		m, offsets := module(12), make([]int, n)
		for i := range n {
			m.Parts = append(m.Parts, api.Part{Period: 12, Length: 1})
			offsets[i] = i
		}
		for k := range 10 {
			checkTable(t, m, make([]int, k))
		}
		for _, x := range extremes {
			frame := m
			frame.Frame = x
			checkTable(t, frame, offsets)
			for i := range n {
				one := m
				one.Parts = slices.Clone(m.Parts)
				one.Parts[i].Length = x
				checkTable(t, one, offsets)
				one.Parts[i].Period = x
				checkTable(t, one, offsets)
				one.Parts[i].Length = 1
				checkTable(t, one, offsets)
				at := slices.Clone(offsets)
				at[i] = x
				checkTable(t, m, at)
			}
		}
	}
	checkTable(t, api.Module{Frame: 12, Parts: make([]api.Part, 100000)}, make([]int, 100000))
	checkTable(t, module(12), make([]int, 100000))
}

// TestOtherFields: tables do not depend on anything but times.
func TestOtherFields(t *testing.T) {
	m := module(12, 4, 1, 6, 1)
	want, _ := window.Table(m, []int{0, 1})
	m.Name, m.Mem = "not a name", -5
	for i, p := range m.Parts {
		m.Parts[i] = api.Part{Name: "", Period: p.Period, Length: p.Length, Mem: -1, Semas: []int{-3}, Events: -1, Boards: 99, Bufs: make([]int, 20), Ports: make([]api.Port, 20), Procs: make([]api.Proc, 20)}
	}
	if table, e := window.Table(m, []int{0, 1}); !slices.Equal(table, want) || len(table) != 5 || e != api.OK {
		t.Error(table, e)
	}
	if l, e := window.Slots(m, []int{0, 1}); !slices.Equal(l, []api.Slot{slot(0, 4, 1), slot(1, 6, 1)}) || e != api.OK {
		t.Error(l, e)
	}
	if !window.Fits(m, want) {
		t.Error("does not fit")
	}
}

// P12.4

func TestFits(t *testing.T) {
	m := module(12, 4, 1, 6, 1)
	good := []api.Window{win(0, 0, 1), win(1, 1, 1), win(0, 4, 1), win(1, 7, 1), win(0, 8, 1)}
	for _, c := range []struct {
		m     api.Module
		table []api.Window
		want  bool
	}{
		{m, good, true},
		{m, nil, false},
		{m, good[:4], false},
		{m, good[1:], false},
		{m, append(slices.Clone(good), win(0, 12, 1)), false},
		{m, append(slices.Clone(good), win(2, 12, 1)), false},
		{m, append(slices.Clone(good), win(-1, 12, 1)), false},
		{m, append(slices.Clone(good), good[4]), false},
		{m, []api.Window{good[1], good[0], good[2], good[3], good[4]}, false},
		{m, []api.Window{good[0], good[1], good[2], good[4], good[3]}, false},
		{m, []api.Window{good[0], good[1], good[1], good[3], good[4]}, false},
		{m, []api.Window{win(0, 0, 1), win(1, 1, 1), win(0, 4, 1), win(1, 7, 1), win(0, 8, 2)}, false},
		{m, []api.Window{win(0, 0, 2), win(1, 1, 2), win(0, 4, 2), win(1, 7, 2), win(0, 8, 2)}, false},
		{m, []api.Window{win(0, 0, 1), win(1, 1, 1), win(0, 4, 1), win(1, 7, 1), win(1, 8, 1)}, false},
		{m, []api.Window{win(1, 0, 1), win(0, 1, 1), win(1, 4, 1), win(0, 7, 1), win(1, 8, 1)}, false},
		{m, []api.Window{win(0, 0, 1), win(1, 2, 1), win(0, 4, 1), win(1, 8, 1), win(0, 8, 1)}, false},
		{m, []api.Window{win(0, 0, 1), win(1, 3, 1), win(0, 4, 1), win(0, 8, 1), win(1, 9, 1)}, true},
		{m, []api.Window{win(0, 0, 1), win(1, 3, 1), win(0, 4, 1), win(1, 9, 1), win(0, 8, 1)}, false},
		{m, []api.Window{win(0, 0, 1), win(0, 4, 1), win(1, 7, 1), win(0, 8, 1)}, false},
		{m, []api.Window{win(1, -5, 1), win(0, 0, 1), win(1, 1, 1), win(0, 4, 1), win(1, 7, 1), win(0, 8, 1)}, false},
		{module(12, 6, 1, 4, 1), good, false},
		{module(24, 4, 1, 6, 1), good, false},
		{module(12, 4, 1), good, false},
		{module(12, 4, 1, 6, 1, 12, 1), good, false},
		{module(12), nil, true},
		{module(12), good, false},
		{module(0), nil, false},
		{module(2001), nil, false},
		{module(12, 5, 1), nil, false},
		{module(12, 12, 13), []api.Window{win(0, 0, 13)}, false},
		{module(12, 12, 12), []api.Window{win(0, 0, 12)}, true},
		{module(1, 1, 1, 1, 1), []api.Window{win(0, 0, 1), win(1, 0, 1)}, false},
		{module(1, 1, 1, 1, 1), nil, false},
		{module(12, 12, 1), []api.Window{win(0, 12, 1)}, false},
		{module(12, 12, 1), []api.Window{win(0, -1, 1)}, false},
		{module(12, 12, 1), []api.Window{win(0, 11, 1)}, true},
	} {
		if got := window.Fits(c.m, c.table); got != c.want {
			t.Errorf("%v %v: %v", c.m, c.table, got)
		}
	}
}

// TestAllFits has all lists of up to four windows: those that fit are the tables of all offsets.
func TestAllFits(t *testing.T) {
	var l []api.Window
	for part := range 2 {
		for start := range 5 {
			for length := range 2 {
				l = append(l, win(part, start-1, length+1))
			}
		}
	}
	for _, m := range []api.Module{module(4), module(4, 4, 1), module(4, 4, 2), module(4, 2, 1), module(4, 2, 2), module(4, 4, 1, 4, 1), module(4, 4, 2, 4, 1), module(4, 4, 2, 4, 2), module(4, 2, 1, 4, 1), module(4, 4, 1, 2, 1), module(4, 2, 1, 2, 1), module(4, 2, 2, 4, 1), module(4, 4, 1, 3, 1), module(4, 4, 0)} {
		var tables [][]api.Window
		for offsets := range lists([]int{0, 1, 2, 3}, len(m.Parts)) {
			if table, e := theTable(m, offsets); e == api.OK {
				tables = append(tables, table)
			}
		}
		fit := 0
		for n := range 5 {
			for table := range lists(l, n) {
				want := slices.ContainsFunc(tables, func(one []api.Window) bool { return slices.Equal(one, table) })
				if got := window.Fits(m, table); got != want {
					t.Errorf("%v %v: %v", m, table, got)
				}
				if want {
					fit++
				}
			}
		}
		if fit != len(tables) {
			t.Errorf("%v: %d of %d tables fit", m, fit, len(tables))
		}
	}
}

// TestChangedFits changes a number of a table, or the order of two windows.
func TestChangedFits(t *testing.T) {
	r := rand.New(rand.NewSource(1204))
	for range 20000 {
		m, offsets := someTabled(r)
		table, _ := window.Table(m, offsets)
		if !window.Fits(m, table) {
			t.Fatal(m, table)
		}
		if len(table) == 0 {
			continue
		}
		i := r.Intn(len(table))
		switch r.Intn(5) {
		case 0:
			table[i].Part += r.Intn(5) - 2
		case 1:
			table[i].Start = someNumber(r)
		case 2:
			table[i].Length = someNumber(r)
		case 3:
			k := r.Intn(len(table))
			table[i], table[k] = table[k], table[i]
		case 4:
			table = slices.Delete(table, i, i+1)
		}
		// The only window of a partition may be moved to another offset.
		if got := window.Fits(m, table); got != isTableOf(m, table) {
			t.Fatal(m, table, got)
		}
	}
}

// isTableOf reports whether a table is that of the first windows of the partitions.
func isTableOf(m api.Module, table []api.Window) bool {
	var offsets []int
	for part := range m.Parts {
		i := slices.IndexFunc(table, func(w api.Window) bool { return w.Part == part })
		if i < 0 {
			return false
		}
		offsets = append(offsets, table[i].Start)
	}
	want, e := theTable(m, offsets)
	return e == api.OK && slices.Equal(table, want)
}
