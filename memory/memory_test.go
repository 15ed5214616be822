package memory_test

import (
	"bytes"
	"math/rand"
	"slices"
	"testing"

	"nacelle/api"
	"nacelle/memory"
)

// P11.3

// TestNew: whether there is a memory depends on whether regions are valid. All its bytes are 0.
func TestNew(t *testing.T) {
	r := rand.New(rand.NewSource(1104))
	for i := range 20000 {
		l, mem := someLayout(r)
		if i%2 == 0 && len(l) > 0 {
			l[r.Intn(len(l))] = reg(r.Intn(3), 4*r.Intn(8), r.Intn(20)-1)
		}
		if i%3 == 0 {
			mem = someNumber(r)
		}
		m, e := memory.New(l, mem)
		if !isValid(l, mem) {
			if m != nil || e != api.ErrArg {
				t.Errorf("%v %d: %v %d", l, mem, m, e)
			}
			continue
		}
		if m == nil || e != api.OK || !bytes.Equal(m.Bytes(), make([]byte, mem)) {
			t.Errorf("%v %d: %v %d", l, mem, m, e)
		}
	}
}

// TestSizes has memories of every size, of one partition that has all bytes, or none.
func TestSizes(t *testing.T) {
	for mem := range api.MaxMem + 1 {
		for _, l := range [][]api.Region{nil, {reg(0, mem/8*8, 0)}, {reg(0, 0, mem)}} {
			m, e := memory.New(l, mem)
			if e != api.OK || !bytes.Equal(m.Bytes(), make([]byte, mem)) {
				t.Fatal(mem, l, e)
			}
		}
	}
	for _, mem := range extremes {
		if m, e := memory.New(nil, mem); (m == nil) != (mem < 0 || mem > api.MaxMem) || (m == nil) != (e == api.ErrArg) {
			t.Error(mem, m, e)
		}
	}
}

// TestWholeMemory stores every byte of the greatest memory, and loads it again.
func TestWholeMemory(t *testing.T) {
	l := []api.Region{reg(0, 2048, 2048), reg(1, 0, 1024), reg(2, 1024, 1023)}
	m, _ := memory.New(l, api.MaxMem)
	want := newModel(l, api.MaxMem)
	for part, x := range l {
		for addr := range x.Size {
			v := byte(addr*7 + part + 1)
			if e := m.Store(part, addr, v); e != api.OK {
				t.Fatal(part, addr, e)
			}
			want.store(part, addr, v)
		}
	}
	if !bytes.Equal(m.Bytes(), want.bytes) {
		t.Error(m.Bytes())
	}
	for part, x := range l {
		for addr := range x.Size {
			if v, e := m.Load(part, addr); v != byte(addr*7+part+1) || e != api.OK {
				t.Fatal(part, addr, v, e)
			}
		}
	}
}

// TestValues stores every value over every kind of other value.
func TestValues(t *testing.T) {
	m, _ := memory.New([]api.Region{reg(0, 8, 1)}, 17)
	for i := range 1 << 16 {
		for _, v := range []byte{byte(i), byte(i >> 8)} {
			if e := m.Store(0, 0, v); e != api.OK {
				t.Fatal(i, e)
			}
			if got, e := m.Load(0, 0); got != v || e != api.OK || m.Bytes()[8] != v {
				t.Fatal(i, got, e)
			}
		}
	}
}

// TestErrors: calls with an error change nothing, and load the byte 0.
func TestErrors(t *testing.T) {
	l := []api.Region{reg(0, 0, 3), reg(1, 8, 0), reg(2, 8, 2)}
	m, _ := memory.New(l, 12)
	for part, x := range l {
		for addr := range x.Size {
			m.Store(part, addr, byte(10*part+addr+1))
		}
	}
	want := []byte{1, 2, 3, 0, 0, 0, 0, 0, 21, 22, 0, 0}
	for _, part := range append([]int{2, 3, 5, 6}, extremes...) {
		for _, addr := range append([]int{2, 3, 4, 5, 6}, extremes...) {
			_, f := translated(l, part, addr)
			if f == api.OK {
				continue
			}
			if v, e := m.Load(part, addr); v != 0 || e != f {
				t.Errorf("%d %d: %d %d, but not %d", part, addr, v, e, f)
			}
			if e := m.Store(part, addr, 99); e != f {
				t.Errorf("%d %d: %d, but not %d", part, addr, e, f)
			}
		}
		if part < 0 || part > 2 {
			if e := m.Clear(part); e != api.ErrNone {
				t.Errorf("%d: %d", part, e)
			}
		}
		if got := m.Bytes(); !bytes.Equal(got, want) {
			t.Fatal(part, got)
		}
	}
}

// TestClear clears one partition at a time of a memory without a byte 0.
func TestClear(t *testing.T) {
	r := rand.New(rand.NewSource(1105))
	for range 2000 {
		l, mem := someLayout(r)
		for part := -1; part <= len(l); part++ {
			m, _ := memory.New(l, mem)
			want := newModel(l, mem)
			for p, x := range l {
				for addr := range x.Size {
					v := byte(1 + r.Intn(255))
					m.Store(p, addr, v)
					want.store(p, addr, v)
				}
			}
			if e, f := m.Clear(part), want.clear(part); e != f || !bytes.Equal(m.Bytes(), want.bytes) {
				t.Fatalf("%v %d: %d %v, but not %d %v", l, part, e, m.Bytes(), f, want.bytes)
			}
		}
	}
}

// TestCalls makes any calls in any order.
func TestCalls(t *testing.T) {
	r := rand.New(rand.NewSource(1106))
	for range 2000 {
		l, mem := someLayout(r)
		m, _ := memory.New(l, mem)
		want := newModel(l, mem)
		for range 100 {
			part, addr, v := r.Intn(8)-1, r.Intn(22)-1, byte(r.Intn(256))
			switch r.Intn(12) {
			case 0:
				if e, f := m.Clear(part), want.clear(part); e != f {
					t.Fatalf("%v: clear %d: %d, but not %d", l, part, e, f)
				}
			case 1, 2, 3, 4, 5:
				if e, f := m.Store(part, addr, v), want.store(part, addr, v); e != f {
					t.Fatalf("%v: store %d %d: %d, but not %d", l, part, addr, e, f)
				}
			default:
				got, e := m.Load(part, addr)
				if b, f := want.load(part, addr); got != b || e != f {
					t.Fatalf("%v: load %d %d: %d %d, but not %d %d", l, part, addr, got, e, b, f)
				}
			}
			if got := m.Bytes(); !bytes.Equal(got, want.bytes) {
				t.Fatalf("%v: %v, but not %v", l, got, want.bytes)
			}
		}
	}
}

// TestNoMemory: neither nil nor a Memory that New did not return is a memory.
func TestNoMemory(t *testing.T) {
	_, e := memory.New([]api.Region{reg(0, 0, 9)}, 8)
	failed, _ := memory.New([]api.Region{reg(0, 0, 9)}, 8)
	if e != api.ErrArg {
		t.Error(e)
	}
	for i, m := range []*memory.Memory{nil, {}, new(memory.Memory), failed} {
		for _, part := range []int{-1, 0, 1} {
			for _, addr := range []int{-1, 0, 1} {
				if v, e := m.Load(part, addr); v != 0 || e != api.ErrNil {
					t.Error(i, part, addr, v, e)
				}
				if e := m.Store(part, addr, 5); e != api.ErrNil {
					t.Error(i, part, addr, e)
				}
			}
			if e := m.Clear(part); e != api.ErrNil {
				t.Error(i, part, e)
			}
		}
		if b := m.Bytes(); len(b) != 0 {
			t.Error(i, b)
		}
	}
}

// TestEmptyMemory: a memory without bytes, or without partitions, is one.
func TestEmptyMemory(t *testing.T) {
	for _, l := range [][]api.Region{nil, {reg(0, 0, 0)}} {
		m, e := memory.New(l, 0)
		if m == nil || e != api.OK || len(m.Bytes()) != 0 {
			t.Fatal(l, e)
		}
		for part := range 2 {
			want, cleared := api.ErrNone, api.ErrNone
			if part < len(l) {
				want, cleared = memory.ErrFault, api.OK
			}
			if v, e := m.Load(part, 0); v != 0 || e != want {
				t.Error(l, part, v, e)
			}
			if e := m.Store(part, 0, 1); e != want {
				t.Error(l, part, e)
			}
			if e := m.Clear(part); e != cleared {
				t.Error(l, part, e)
			}
		}
	}
}

// TestRegionsKept: a memory has a copy of its regions.
func TestRegionsKept(t *testing.T) {
	l := []api.Region{reg(0, 0, 3), reg(1, 8, 2)}
	kept := slices.Clone(l)
	m, _ := memory.New(l, 16)
	for i := range l {
		l[i] = reg(1-i, 8-l[i].Base, 8)
	}
	want := newModel(kept, 16)
	for part := range 3 {
		for addr := range 9 {
			if e, f := m.Store(part, addr, byte(addr+1)), want.store(part, addr, byte(addr+1)); e != f {
				t.Error(part, addr, e, f)
			}
		}
	}
	if got := m.Bytes(); !bytes.Equal(got, want.bytes) {
		t.Error(got)
	}
	if e := m.Clear(1); e != api.OK || !bytes.Equal(m.Bytes()[:3], []byte{1, 2, 3}) || !bytes.Equal(m.Bytes()[3:], make([]byte, 13)) {
		t.Error(e, m.Bytes())
	}
}
