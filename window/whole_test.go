package window_test

import (
	"math/rand"
	"slices"
	"sync"
	"testing"

	"nacelle/api"
	"nacelle/window"
)

// P12.5

// TestDivisors: slots are disjoint if and only if the lengths fit between the differences of the offsets.
func TestDivisors(t *testing.T) {
	r := rand.New(rand.NewSource(1206))
	apart := 0
	for range 100000 {
		a, b := someSlot(r, api.MaxFrames), someSlot(r, api.MaxFrames)
		if r.Intn(2) == 0 {
			b.Period = a.Period
			b.Length = 1 + r.Intn(b.Period)
			b.Offset = r.Intn(b.Period - b.Length + 1)
		}
		want := areApart(a, b)
		if window.Disjoint(a, b) != want {
			t.Fatal(a, b)
		}
		if want {
			apart++
		}
	}
	if apart < 10000 {
		t.Error("only", apart, "pairs are disjoint")
	}
}

// TestSymmetric: the order of two slots, and an equal change of both offsets, do not matter.
func TestSymmetric(t *testing.T) {
	r := rand.New(rand.NewSource(1207))
	for range 100000 {
		a, b := someSlot(r, 100), someSlot(r, 100)
		want := window.Disjoint(a, b)
		if window.Disjoint(b, a) != want {
			t.Fatal(a, b)
		}
		at, met := window.Meet(a, b)
		if back, ok := window.Meet(b, a); back != at || ok != met {
			t.Fatal(a, b, at, back)
		}
		k := r.Intn(1 + min(a.Period-a.Length-a.Offset, b.Period-b.Length-b.Offset))
		a.Offset, b.Offset = a.Offset+k, b.Offset+k
		if window.Disjoint(a, b) != want {
			t.Fatal(a, b, k)
		}
		if later, ok := window.Meet(a, b); ok != met || met && later != at+k {
			t.Fatal(a, b, k, at, later)
		}
	}
}

// TestPeriods: in a table each partition has its length in each of its periods, and no two windows overlap. Owner and Next tell the same.
func TestPeriods(t *testing.T) {
	r := rand.New(rand.NewSource(1208))
	for range 2000 {
		m, offsets := someTabled(r)
		table, e := window.Table(m, offsets)
		if e != api.OK {
			t.Fatal(m, offsets, e)
		}
		owner := make([]int, m.Frame)
		for _, w := range table {
			for at := w.Start; at < w.Start+w.Length; at++ {
				if owner[at] != 0 {
					t.Fatal(m, table, "windows overlap at", at)
				}
				owner[at] = w.Part + 1
			}
		}
		for i, p := range m.Parts {
			for from := 0; from < m.Frame; from += p.Period {
				n := 0
				for _, part := range owner[from : from+p.Period] {
					if part == i+1 {
						n++
					}
				}
				if n != p.Length {
					t.Fatal(m, table, "partition", i, "has", n, "ticks from", from, "on")
				}
			}
		}
		at := r.Intn(m.Frame)
		if part, ok := window.Owner(table, m.Frame, at+3*m.Frame); ok != (owner[at] > 0) || ok && part != owner[at]-1 {
			t.Fatal(m, table, at, part, ok)
		}
		for i, w := range table {
			one, at, ok := window.Next(table, m.Frame, w.Start)
			if one != w || at != w.Start || !ok {
				t.Fatal(m, table, i, one, at, ok)
			}
			after := table[(i+1)%len(table)]
			if one, at, ok = window.Next(table, m.Frame, w.Start+1); one != after || at%m.Frame != after.Start || !ok {
				t.Fatal(m, table, i, one, at, ok)
			}
		}
	}
}

// R1, R2, R7

// TestArbitrary gives arbitrary arguments to every function.
func TestArbitrary(t *testing.T) {
	r := rand.New(rand.NewSource(1209))
	for range 100000 {
		a := slot(someNumber(r), someNumber(r), someNumber(r))
		b := slot(someNumber(r), someNumber(r), someNumber(r))
		if window.Valid(a) != isValid(a) {
			t.Error(a)
		}
		checkInvalid(t, a, b)
		m := module(someNumber(r))
		var offsets []int
		for range r.Intn(9) {
			m.Parts = append(m.Parts, api.Part{Period: someNumber(r), Length: someNumber(r)})
			offsets = append(offsets, someNumber(r))
		}
		checkTable(t, m, offsets)
		table := make([]api.Window, r.Intn(9))
		for i := range table {
			table[i] = win(someNumber(r), someNumber(r), someNumber(r))
		}
		if window.Fits(m, table) != isTableOf(m, table) {
			t.Error(m, table)
		}
		checkTimes(t, table, someNumber(r), someNumber(r))
	}
}

// checkInvalid examines a pair of slots of which at least one is not valid, and leaves others alone, as they may take long.
func checkInvalid(t *testing.T, a, b api.Slot) {
	t.Helper()
	if !isValid(a) || !isValid(b) {
		checkPair(t, a, b)
	} else if window.Disjoint(a, b) != areApart(a, b) {
		t.Errorf("%v %v", a, b)
	}
}

// R3

// TestArguments checks that nothing is written to arguments or behind them.
func TestArguments(t *testing.T) {
	m := module(12, 4, 1, 6, 1, 12, 1, 77, 78)
	offsets := []int{0, 1, 2, 77, 78}
	keptOffsets := slices.Clone(offsets)
	table, _ := window.Table(module(12, 4, 1, 6, 1), []int{0, 1})
	table = append(slices.Clone(table), win(77, 78, 79), win(80, 81, 82))
	keptTable := slices.Clone(table)
	for n := range 5 {
		cut := m
		cut.Parts = m.Parts[:n]
		window.Slots(cut, offsets[:n])
		window.Table(cut, offsets[:n])
		window.Fits(cut, table[:5])
		for at := range 14 {
			window.Owner(table[:n], 12, at)
			window.Next(table[:n], 12, at)
		}
		if !slices.Equal(offsets, keptOffsets) || !slices.Equal(table, keptTable) {
			t.Fatal(n, offsets, table)
		}
		for i, p := range m.Parts {
			if want := []int{4, 1, 6, 1, 12, 1, 77, 78}; p.Period != want[2*i] || p.Length != want[2*i+1] {
				t.Fatal(n, m)
			}
		}
	}
}

// spoil overwrites all memory of a list.
func spoil[T any](list []T, with T) {
	list = list[:cap(list)]
	for i := range list {
		list[i] = with
	}
}

// TestResults checks that one result does not change another one.
func TestResults(t *testing.T) {
	m, offsets := module(12, 4, 1, 6, 1), []int{0, 1}
	first, _ := window.Slots(m, offsets)
	second, _ := window.Slots(m, offsets)
	spoil(first, slot(9, 9, 9))
	if want, _ := theSlots(m, offsets); !slices.Equal(second, want) {
		t.Error(second)
	}
	one, _ := window.Table(m, offsets)
	two, _ := window.Table(m, offsets)
	spoil(one, win(9, 9, 9))
	if want, _ := theTable(m, offsets); !slices.Equal(two, want) {
		t.Error(two)
	}
	alone, _ := window.Table(module(12, 4, 1), []int{0})
	spoil(alone, win(9, 9, 9))
	if !window.Fits(m, two) || window.Fits(m, one) {
		t.Error("fits")
	}
}

// R4

// TestRepeated compares results of many calls at the same time with those of the same calls one after the other.
func TestRepeated(t *testing.T) {
	run := func() []any {
		r := rand.New(rand.NewSource(1210))
		var out []any
		for range 300 {
			a, b := someSlot(r, 60), someSlot(r, 60)
			at, met := window.Meet(a, b)
			out = append(out, window.Valid(a), window.Disjoint(a, b), at, met)
			m, offsets := someModule(r)
			l, e := window.Slots(m, offsets)
			table, f := window.Table(m, offsets)
			out = append(out, len(l), e, len(table), f, window.Fits(m, table))
			for _, w := range table {
				out = append(out, w)
			}
			at = r.Intn(big30)
			part, ok := window.Owner(table, m.Frame, at)
			w, at, some := window.Next(table, m.Frame, at)
			out = append(out, part, ok, w, at, some)
		}
		return out
	}
	want := run()
	var all sync.WaitGroup
	for range 4 {
		all.Go(func() {
			if !slices.Equal(run(), want) {
				t.Error("results differ")
			}
		})
	}
	all.Wait()
}

// R5

// TestEmpty: lists without elements are alike, whether or not they are nil.
func TestEmpty(t *testing.T) {
	for _, offsets := range [][]int{nil, {}, make([]int, 0, 9)} {
		for _, parts := range [][]api.Part{nil, {}, make([]api.Part, 0, 9)} {
			m := api.Module{Frame: 5, Parts: parts}
			if l, e := window.Slots(m, offsets); len(l) != 0 || e != api.OK {
				t.Error(l, e)
			}
			if table, e := window.Table(m, offsets); len(table) != 0 || e != api.OK {
				t.Error(table, e)
			}
		}
		if table, e := window.Table(module(5, 5, 1), offsets); len(table) != 0 || e != api.ErrArg {
			t.Error(table, e)
		}
	}
	for _, table := range [][]api.Window{nil, {}, make([]api.Window, 0, 9)} {
		if !window.Fits(module(5), table) || window.Fits(module(5, 5, 1), table) || window.Fits(module(0), table) {
			t.Error("fits")
		}
		if part, ok := window.Owner(table, 5, 0); part != 0 || ok {
			t.Error(part, ok)
		}
		if w, at, ok := window.Next(table, 5, 0); w != (api.Window{}) || at != 0 || ok {
			t.Error(w, at, ok)
		}
	}
}
