package check

import (
	"slices"

	"nacelle/api"
)

// Node returns the number of the node with a name.
func Node(c api.Config, name string) int {
	if m := slices.IndexFunc(c.Modules, func(x api.Module) bool { return x.Name == name }); m >= 0 {
		return m
	}
	if s := slices.IndexFunc(c.Switches, func(x api.Switch) bool { return x.Name == name }); s >= 0 {
		return len(c.Modules) + s
	}
	return -1
}

// Port returns the indices of the port of a reference.
func Port(c api.Config, r api.Ref) (m, p, o int) {
	m = slices.IndexFunc(c.Modules, func(x api.Module) bool { return x.Name == r.Module })
	if m < 0 {
		return -1, -1, -1
	}
	p = part(c.Modules[m], r.Part)
	if p < 0 {
		return -1, -1, -1
	}
	o = slices.IndexFunc(c.Modules[m].Parts[p].Ports, func(x api.Port) bool { return x.Name == r.Port })
	if o < 0 {
		return -1, -1, -1
	}
	return m, p, o
}

// part returns the index of the partition of a module with a name, or -1.
func part(m api.Module, name string) int {
	return slices.IndexFunc(m.Parts, func(x api.Part) bool { return x.Name == name })
}
