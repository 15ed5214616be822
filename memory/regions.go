package memory

import (
	"nacelle/api"
)

// regions are arbitrary: several may be of one partition, or contain one number. The first one counts.
type regions []api.Region

// of returns the region of a partition.
func (l regions) of(part int) (api.Region, bool) {
	return first(l, func(r api.Region) bool { return r.Part == part })
}

// around returns the region that contains a number.
func (l regions) around(at int) (api.Region, bool) {
	return first(l, func(r api.Region) bool { return at >= r.Base && at < r.Base+r.Size })
}

// translate returns the physical address of an address of a partition.
func (l regions) translate(part, addr int) (int, api.Errno) {
	r, found := l.of(part)
	if !found {
		return 0, api.ErrNone
	}
	if addr < 0 || addr >= r.Size {
		return 0, ErrFault
	}
	return r.Base + addr, api.OK
}

// first returns the first element of a list with a property.
func first[T any](l []T, holds func(x T) bool) (T, bool) {
	for _, x := range l {
		if holds(x) {
			return x, true
		}
	}
	var none T
	return none, false
}

// Translate returns the physical address of an address of a partition.
func Translate(l []api.Region, part, addr int) (int, api.Errno) {
	return regions(l).translate(part, addr)
}

// Owner returns the partition and the address to which a physical address belongs.
func Owner(l []api.Region, at int) (part, addr int, ok bool) {
	r, found := regions(l).around(at)
	if !found {
		return 0, 0, false
	}
	return r.Part, at - r.Base, true
}
