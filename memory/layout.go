package memory

import (
	"nacelle/api"
)

// align divides the base of every region.
const align = 8

// Layout returns the regions of the partitions of a module.
func Layout(m api.Module) ([]api.Region, api.Errno) {
	if !sizesValid(m) {
		return nil, api.ErrArg
	}
	var l []api.Region
	end := 0
	for i, p := range m.Parts {
		base := (end + align - 1) / align * align
		l = append(l, api.Region{Part: i, Base: base, Size: p.Mem})
		end = base + p.Mem
	}
	if end > m.Mem {
		return nil, api.ErrFull
	}
	return l, api.OK
}

// sizesValid reports whether the sizes of a module are valid.
func sizesValid(m api.Module) bool {
	if !isSize(m.Mem) || len(m.Parts) > api.MaxParts {
		return false
	}
	_, found := first(m.Parts, func(p api.Part) bool { return !isSize(p.Mem) })
	return !found
}

// isSize reports whether a memory may have n bytes.
func isSize(n int) bool { return n >= 0 && n <= api.MaxMem }

// Valid reports whether regions are valid for a memory of mem bytes.
func Valid(l []api.Region, mem int) bool {
	if !isSize(mem) || len(l) > api.MaxParts {
		return false
	}
	for i, r := range l {
		if r.Part != i || !fits(r, mem) {
			return false
		}
		if _, found := first(l[:i], func(before api.Region) bool { return overlap(before, r) }); found {
			return false
		}
	}
	return true
}

// fits reports whether a region may be one of a memory of mem bytes. The end of an arbitrary region may be too large for an int, so that it is not computed.
func fits(r api.Region, mem int) bool {
	return r.Base >= 0 && r.Base%align == 0 && r.Size >= 0 && r.Size <= mem-r.Base
}

// overlap reports whether a number is contained in two regions, which fit.
func overlap(a, b api.Region) bool {
	return max(a.Base, b.Base) < min(a.Base+a.Size, b.Base+b.Size)
}
