package memory_test

import (
	"iter"
	"math"
	"math/big"
	"math/rand"
	"slices"

	"nacelle/api"
	"nacelle/memory"
)

// The signatures of the chapter.
var (
	_ func(api.Module) ([]api.Region, api.Errno)          = memory.Layout
	_ func([]api.Region, int) bool                        = memory.Valid
	_ func([]api.Region, int, int) (int, api.Errno)       = memory.Translate
	_ func([]api.Region, int) (part, addr int, ok bool)   = memory.Owner
	_ func([]api.Region, int) (*memory.Memory, api.Errno) = memory.New
	_ func(*memory.Memory, int, int) (byte, api.Errno)    = (*memory.Memory).Load
	_ func(*memory.Memory, int, int, byte) api.Errno      = (*memory.Memory).Store
	_ func(*memory.Memory, int) api.Errno                 = (*memory.Memory).Clear
	_ func(*memory.Memory) []byte                         = (*memory.Memory).Bytes
	_ [memory.ErrFault - api.Errno(110)]struct{}          = [0]struct{}{}
)

// big30 is the greatest Base and Size of regions for which Translate and Owner are specified.
const big30 = 1 << 30

// extremes are numbers at which computations of ints go wrong.
var extremes = []int{math.MinInt, math.MinInt + 1, math.MinInt + 7, math.MinInt + 8, -1 << 62, -1<<32 + 8, -1 << 32, -1<<31 - 8, -1 << 31, -big30, -4096, -16, -9, -8, -1, 0, 1, 7, 8, 9, 16, 4088, 4095, 4096, 4097, 4104, 5000, big30, 1<<31 - 8, 1 << 31, 1<<32 - 1, 1 << 32, 1<<32 + 8, 1 << 62, math.MaxInt - 8, math.MaxInt - 7, math.MaxInt - 1, math.MaxInt}

func reg(part, base, size int) api.Region {
	return api.Region{Part: part, Base: base, Size: size}
}

// module returns a module with partitions of the given sizes.
func module(mem int, sizes ...int) api.Module {
	m := api.Module{Mem: mem}
	for _, n := range sizes {
		m.Parts = append(m.Parts, api.Part{Mem: n})
	}
	return m
}

// lists yields all lists of n elements. They must not be kept.
func lists[T any](elements []T, n int) iter.Seq[[]T] {
	return func(yield func([]T) bool) {
		l := make([]T, n)
		var fill func(i int) bool
		fill = func(i int) bool {
			if i == n {
				return yield(l)
			}
			for _, x := range elements {
				l[i] = x
				if !fill(i + 1) {
					return false
				}
			}
			return true
		}
		fill(0)
	}
}

// theLayout follows the definition of the layout.
func theLayout(m api.Module) ([]api.Region, api.Errno) {
	if m.Mem < 0 || m.Mem > 4096 || len(m.Parts) > 6 {
		return nil, api.ErrArg
	}
	for _, p := range m.Parts {
		if p.Mem < 0 || p.Mem > 4096 {
			return nil, api.ErrArg
		}
	}
	var l []api.Region
	for i, p := range m.Parts {
		base := 0
		for i > 0 && base < l[i-1].Base+l[i-1].Size {
			base += 8
		}
		l = append(l, reg(i, base, p.Mem))
	}
	if n := len(l); n > 0 && l[n-1].Base+l[n-1].Size > m.Mem {
		return nil, api.ErrFull
	}
	return l, api.OK
}

// theEnd returns Base plus Size.
func theEnd(r api.Region) *big.Int {
	return new(big.Int).Add(big.NewInt(int64(r.Base)), big.NewInt(int64(r.Size)))
}

// isValid follows the definition of valid regions.
func isValid(l []api.Region, mem int) bool {
	if mem < 0 || mem > 4096 || len(l) > 6 {
		return false
	}
	taken := map[int]bool{}
	for i, r := range l {
		if r.Part != i || r.Base%8 != 0 || r.Base < 0 || r.Size < 0 || theEnd(r).Cmp(big.NewInt(int64(mem))) > 0 {
			return false
		}
		for k := range r.Size {
			if taken[r.Base+k] {
				return false
			}
			taken[r.Base+k] = true
		}
	}
	return true
}

// translated follows the definition of Translate.
func translated(l []api.Region, part, addr int) (int, api.Errno) {
	for _, r := range l {
		if r.Part != part {
			continue
		}
		if addr < 0 || addr > r.Size-1 {
			return 0, memory.ErrFault
		}
		return r.Base + addr, api.OK
	}
	return 0, api.ErrNone
}

// owner follows the definition of Owner.
func owner(l []api.Region, at int) (part, addr int, ok bool) {
	for _, r := range l {
		n := big.NewInt(int64(at))
		if n.Cmp(big.NewInt(int64(r.Base))) >= 0 && n.Cmp(theEnd(r)) < 0 {
			return r.Part, at - r.Base, true
		}
	}
	return 0, 0, false
}

// model is a memory by its definition.
type model struct {
	l     []api.Region
	bytes []byte
}

func newModel(l []api.Region, mem int) *model {
	return &model{slices.Clone(l), make([]byte, mem)}
}

func (m *model) load(part, addr int) (byte, api.Errno) {
	at, e := translated(m.l, part, addr)
	if e != api.OK {
		return 0, e
	}
	return m.bytes[at], api.OK
}

func (m *model) store(part, addr int, v byte) api.Errno {
	at, e := translated(m.l, part, addr)
	if e == api.OK {
		m.bytes[at] = v
	}
	return e
}

func (m *model) clear(part int) api.Errno {
	if part < 0 || part >= len(m.l) {
		return api.ErrNone
	}
	for k := range m.l[part].Size {
		m.bytes[m.l[part].Base+k] = 0
	}
	return api.OK
}

// someLayout returns valid regions and the size of a memory for them. Regions are not always in the order of their bases, and have gaps.
func someLayout(r *rand.Rand) ([]api.Region, int) {
	n := r.Intn(7)
	l, end := make([]api.Region, n), 0
	for _, i := range r.Perm(n) {
		l[i] = reg(i, end+8*r.Intn(3), r.Intn(20))
		end = (l[i].Base + l[i].Size + 7) / 8 * 8
	}
	return l, end + r.Intn(10)
}

// someRegions returns arbitrary regions whose numbers are near 0.
func someRegions(r *rand.Rand) []api.Region {
	l := make([]api.Region, r.Intn(8))
	for i := range l {
		l[i] = reg(r.Intn(9)-1, r.Intn(50)-10, r.Intn(30)-5)
	}
	return l
}

// someNumber returns a number near 0 or anywhere.
func someNumber(r *rand.Rand) int {
	switch r.Intn(4) {
	case 0:
		return r.Intn(9) - 1
	case 1:
		return r.Intn(100) - 20
	case 2:
		return extremes[r.Intn(len(extremes))]
	}
	return int(r.Uint64()) >> r.Intn(64)
}
