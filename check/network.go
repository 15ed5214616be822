package check

import "nacelle/api"

// overhead is what a frame has besides its message, in bytes.
const overhead = 8

// plug is where a link ends at a module.
type plug struct{ node, net int }

// links reports whether all links are valid.
func (k *checker) links() bool {
	used := map[plug]bool{}
	return all(k.Links, func(x api.Link) bool {
		a, b := Node(k.Config, x.A), Node(k.Config, x.B)
		switches := max(a, b) >= len(k.Modules)
		return a >= 0 && b >= 0 && a != b && switches && k.plugged(used, plug{a, x.Net}) && k.plugged(used, plug{b, x.Net})
	})
}

// plugged reports whether a link of a network can end at a node, and notes that it does.
func (k *checker) plugged(used map[plug]bool, end plug) bool {
	if s := end.node - len(k.Modules); s >= 0 {
		return k.Switches[s].Net == end.net
	}
	free := !used[end]
	used[end] = true
	return free
}

// connections reports whether all channels and virtual links are valid, and no port has several of them.
func (k *checker) connections() bool {
	used := map[api.Ref]bool{}
	return all(k.Channels, func(x api.Channel) bool { return k.connected(used, x.From, x.To, true) }) &&
		all(k.VLs, func(x api.VL) bool { return k.connected(used, x.From, x.To, false) })
}

// connected reports whether ports can be connected, inside of their module or not, and notes that they are.
func (k *checker) connected(used map[api.Ref]bool, from api.Ref, to []api.Ref, inside bool) bool {
	free := func(r api.Ref) bool {
		was := used[r]
		used[r] = true
		return !was
	}
	// If there is no port, its Out is false, and its Kind that of none.
	source := k.known[from]
	return source.Out && free(from) && all(to, func(r api.Ref) bool {
		x := k.known[r]
		return !x.Out && x.Kind == source.Kind && x.Size == source.Size && (r.Module == from.Module) == inside && free(r)
	})
}

// gaps reports whether all virtual links have a valid Bag and Max.
func (k *checker) gaps() bool {
	return all(k.VLs, func(x api.VL) bool {
		return gap(x.Bag) && within(k.known[x.From].Size+overhead, api.MaxMessage+overhead)(x.Max)
	})
}

// gap reports whether a number is a bandwidth allocation gap.
func gap(n int) bool {
	for x := api.MinBag; x <= api.MaxBag; x *= 2 {
		if n == x {
			return true
		}
	}
	return false
}
