package check

import (
	"slices"

	"nacelle/api"
)

// names reports whether no name occurs twice where it must not.
func (k *checker) names() bool {
	modules := names(k.Modules, func(x api.Module) string { return x.Name })
	switches := names(k.Switches, func(x api.Switch) string { return x.Name })
	return distinct(slices.Concat(modules, switches)) &&
		distinct(names(k.VLs, func(x api.VL) string { return x.Name })) &&
		all(k.Modules, func(m api.Module) bool {
			return distinct(names(m.Parts, func(x api.Part) string { return x.Name })) && all(m.Parts, partNames)
		})
}

// partNames reports whether the names of ports and those of processes differ.
func partNames(p api.Part) bool {
	return distinct(names(p.Ports, func(x api.Port) string { return x.Name })) &&
		distinct(names(p.Procs, func(x api.Proc) string { return x.Name }))
}

// names returns the names of things.
func names[T any](l []T, name func(x T) string) []string {
	var out []string
	for _, x := range l {
		out = append(out, name(x))
	}
	return out
}

// distinct reports whether no name occurs twice.
func distinct(l []string) bool {
	seen := map[string]bool{}
	for _, name := range l {
		seen[name] = true
	}
	return len(seen) == len(l)
}

// times reports whether periods, lengths and deadlines fit. No Period of a partition is 0, by the limits.
func (k *checker) times() bool {
	return all(k.Modules, func(m api.Module) bool {
		return all(m.Parts, func(p api.Part) bool {
			return m.Frame%p.Period == 0 && p.Length <= p.Period && all(p.Procs, func(x api.Proc) bool {
				return x.Period%p.Period == 0 && (x.Period == 0 || x.Limit <= x.Period)
			})
		})
	})
}
