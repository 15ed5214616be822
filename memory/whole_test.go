package memory_test

import (
	"bytes"
	"math"
	"math/rand"
	"slices"
	"sync"
	"testing"

	"nacelle/api"
	"nacelle/memory"
)

// P11.4

// someModule returns a module with a layout.
func someModule(r *rand.Rand) api.Module {
	for {
		m := module(r.Intn(200))
		for range r.Intn(7) {
			m.Parts = append(m.Parts, api.Part{Mem: r.Intn(40)})
		}
		if _, e := memory.Layout(m); e == api.OK {
			return m
		}
	}
}

// TestInverse: Owner undoes Translate, and a number without an owner is the translation of nothing.
func TestInverse(t *testing.T) {
	r := rand.New(rand.NewSource(1107))
	for range 3000 {
		m := someModule(r)
		l, _ := memory.Layout(m)
		owned := map[int]bool{}
		for part, p := range m.Parts {
			for addr := range p.Mem {
				at, e := memory.Translate(l, part, addr)
				if e != api.OK || at < 0 || at >= m.Mem || owned[at] {
					t.Fatal(m, part, addr, at, e)
				}
				owned[at] = true
				if p, a, ok := memory.Owner(l, at); p != part || a != addr || !ok {
					t.Fatal(m, part, addr, p, a, ok)
				}
			}
		}
		for at := -3; at < m.Mem+3; at++ {
			part, addr, ok := memory.Owner(l, at)
			if ok != owned[at] {
				t.Fatal(m, at, part, addr, ok)
			}
			if back, e := memory.Translate(l, part, addr); ok && (back != at || e != api.OK) {
				t.Fatal(m, at, part, addr, back, e)
			}
		}
	}
}

// call is a load, a store or a clear.
type call struct {
	kind, part, addr int
	v                byte
}

func (c call) do(m *memory.Memory) (byte, api.Errno) {
	switch c.kind {
	case 0:
		return 0, m.Clear(c.part)
	case 1, 2, 3:
		return 0, m.Store(c.part, c.addr, c.v)
	}
	return m.Load(c.part, c.addr)
}

// TestIsolation: each partition sees the same whether or not the others do anything.
func TestIsolation(t *testing.T) {
	r := rand.New(rand.NewSource(1108))
	for range 1000 {
		module := someModule(r)
		l, _ := memory.Layout(module)
		all, _ := memory.New(l, module.Mem)
		var alone []*memory.Memory
		for range l {
			m, _ := memory.New(l, module.Mem)
			alone = append(alone, m)
		}
		for range 200 {
			if len(l) == 0 {
				break
			}
			c := call{r.Intn(8), r.Intn(len(l)), r.Intn(44) - 2, byte(r.Intn(256))}
			v, e := c.do(all)
			if w, f := c.do(alone[c.part]); v != w || e != f {
				t.Fatalf("%v %v: %d %d alone, %d %d with the others", l, c, w, f, v, e)
			}
		}
	}
}

// R1, R2, R7

// TestArbitrary gives arbitrary arguments to every function. Where regions are beyond what is specified, results are open.
func TestArbitrary(t *testing.T) {
	r := rand.New(rand.NewSource(1109))
	for range 100000 {
		l := make([]api.Region, r.Intn(9))
		m := api.Module{Mem: someNumber(r)}
		for i := range l {
			l[i] = reg(someNumber(r), someNumber(r), someNumber(r))
			m.Parts = append(m.Parts, api.Part{Mem: someNumber(r)})
		}
		part, x := someNumber(r), someNumber(r)
		checkLayout(t, m)
		checkValid(t, l, x)
		if at, e := memory.Translate(l, part, x); e != api.OK && at != 0 {
			t.Error(l, part, x, at, e)
		}
		if p, a, ok := memory.Owner(l, x); !ok && (p != 0 || a != 0) {
			t.Error(l, x, p, a)
		}
		if m, e := memory.New(l, x); (m == nil) != (e != api.OK) {
			t.Error(l, x, e)
		}
	}
}

// TestUnspecified has regions whose ends no int holds.
func TestUnspecified(t *testing.T) {
	for l := range lists([]int{math.MinInt, math.MinInt + 1, -1, 0, 1, math.MaxInt - 1, math.MaxInt}, 4) {
		one := []api.Region{reg(0, l[0], l[1]), reg(1, l[1], l[0])}
		memory.Translate(one, 0, l[2])
		memory.Translate(one, 1, l[3])
		memory.Owner(one, l[2])
		memory.Owner(one, l[3])
	}
}

// R3

// TestArguments checks that nothing is written to arguments or behind them.
func TestArguments(t *testing.T) {
	m := module(40, 5, 0, 8, 3, 77, 78)
	l := []api.Region{reg(0, 0, 5), reg(1, 8, 0), reg(2, 8, 8), reg(3, 16, 3), reg(77, 78, 79), reg(80, 81, 82)}
	kept, sizes := slices.Clone(l), []int{5, 0, 8, 3, 77, 78}
	for n := range 5 {
		cut := m
		cut.Parts = m.Parts[:n]
		memory.Layout(cut)
		part := l[:n]
		memory.Valid(part, 40)
		memory.Translate(part, 2, 3)
		memory.Owner(part, 9)
		x, _ := memory.New(part, 40)
		for p := range n + 1 {
			x.Store(p, 1, 9)
			x.Load(p, 1)
			x.Clear(p)
		}
		if !slices.Equal(l, kept) {
			t.Fatal(n, l)
		}
		for i, p := range m.Parts {
			if p.Mem != sizes[i] {
				t.Fatal(n, m)
			}
		}
	}
}

// spoil overwrites all memory of a list.
func spoil[T any](list []T, with T) {
	list = list[:cap(list)]
	for i := range list {
		list[i] = with
	}
}

// TestResults checks that one result does not change another one, or a memory.
func TestResults(t *testing.T) {
	m := module(19, 5, 0, 8, 3)
	first, _ := memory.Layout(m)
	second, _ := memory.Layout(m)
	x, _ := memory.New(second, 19)
	spoil(first, reg(9, 9, 9))
	if want, _ := theLayout(m); !slices.Equal(second, want) {
		t.Error(second)
	}
	spoil(second, reg(9, 9, 9))
	x.Store(2, 7, 5)
	one, two := x.Bytes(), x.Bytes()
	spoil(one, 99)
	if v, e := x.Load(2, 7); v != 5 || e != api.OK || two[15] != 5 || two[0] != 0 {
		t.Error(v, e, two)
	}
	x.Store(2, 7, 6)
	if two[15] != 5 || x.Bytes()[15] != 6 || x.Bytes()[0] != 0 {
		t.Error(two, x.Bytes())
	}
}

// R4

// TestMemories uses memories by turns: one does not change another one, even with the same regions.
func TestMemories(t *testing.T) {
	l := []api.Region{reg(0, 0, 4), reg(1, 8, 4)}
	a, _ := memory.New(l, 12)
	b, _ := memory.New(l, 12)
	a.Store(0, 1, 5)
	b.Store(0, 1, 6)
	b.Store(1, 2, 7)
	a.Clear(1)
	if v, _ := a.Load(0, 1); v != 5 {
		t.Error(v)
	}
	if !bytes.Equal(b.Bytes(), []byte{0, 6, 0, 0, 0, 0, 0, 0, 0, 0, 7, 0}) {
		t.Error(b.Bytes())
	}
	b.Clear(0)
	if !bytes.Equal(a.Bytes(), []byte{0, 5, 0, 0, 0, 0, 0, 0, 0, 0, 0, 0}) {
		t.Error(a.Bytes())
	}
	c := *a
	c.Store(0, 1, 8)
	c.Clear(0)
	if v, e := a.Load(0, 1); v != 5 || e != api.OK {
		t.Error("a copy changes what it was copied from", v, e)
	}
}

// TestRepeated compares results of many calls at the same time with those of the same calls one after the other.
func TestRepeated(t *testing.T) {
	run := func() []any {
		r := rand.New(rand.NewSource(1110))
		var out []any
		for range 300 {
			module := someModule(r)
			l, e := memory.Layout(module)
			at, f := memory.Translate(l, r.Intn(7), r.Intn(40))
			part, addr, ok := memory.Owner(l, r.Intn(200))
			m, g := memory.New(l, module.Mem)
			out = append(out, len(l), e, at, f, part, addr, ok, g, memory.Valid(l, r.Intn(300)))
			for range 20 {
				v, e := call{r.Intn(8), r.Intn(7), r.Intn(44) - 2, byte(r.Intn(256))}.do(m)
				out = append(out, v, e)
			}
			out = append(out, string(m.Bytes()))
		}
		return out
	}
	want := run()
	var all sync.WaitGroup
	for range 4 {
		all.Go(func() {
			if !slices.Equal(run(), want) {
				t.Error("results differ")
			}
		})
	}
	all.Wait()
}

// R5

// TestEmpty: lists without elements are alike, whether or not they are nil.
func TestEmpty(t *testing.T) {
	for _, parts := range [][]api.Part{nil, {}, make([]api.Part, 0, 9)} {
		if l, e := memory.Layout(api.Module{Mem: 5, Parts: parts}); len(l) != 0 || e != api.OK {
			t.Error(l, e)
		}
	}
	for _, l := range [][]api.Region{nil, {}, make([]api.Region, 0, 9)} {
		if !memory.Valid(l, 5) || memory.Valid(l, -1) {
			t.Error("valid")
		}
		if at, e := memory.Translate(l, 0, 0); at != 0 || e != api.ErrNone {
			t.Error(at, e)
		}
		if _, _, ok := memory.Owner(l, 0); ok {
			t.Error("owner")
		}
		m, e := memory.New(l, 5)
		if m == nil || e != api.OK || !bytes.Equal(m.Bytes(), make([]byte, 5)) || m.Clear(0) != api.ErrNone {
			t.Error(e)
		}
	}
}
