package check

import (
	"slices"

	"nacelle/api"
)

// rows reports whether all health and version rows are valid.
func (k *checker) rows() bool {
	return all(k.Health, func(x api.Health) bool {
		return k.place(x.Module, x.Part) && belongs(x.Do, x.Level) && suits(x)
	}) && all(k.Versions, func(x api.Version) bool {
		return k.module(x.A) && k.module(x.B) && x.A != x.B
	})
}

// module reports whether there is a module with a name.
func (k *checker) module(name string) bool {
	node := Node(k.Config, name)
	return 0 <= node && node < len(k.Modules)
}

// place reports whether there are the module and the partition of a row. An empty name stands for all of them, even if there are none.
func (k *checker) place(module, name string) bool {
	if name == "" {
		return module == "" || k.module(module)
	}
	return slices.ContainsFunc(k.Modules, func(m api.Module) bool {
		return (module == "" || module == m.Name) && part(m, name) >= 0
	})
}

// belongs reports whether an action belongs to a level.
func belongs(do, level uint8) bool {
	switch do {
	case api.DoStop, api.DoRestart:
		return level == api.LevelProcess
	case api.DoWarm, api.DoCold, api.DoIdle:
		return level == api.LevelPart
	case api.DoReset, api.DoHalt:
		return level == api.LevelModule
	default:
		return true
	}
}

// suits reports whether the level and the place of a row suit its fault.
func suits(x api.Health) bool {
	if x.Fault != api.FaultPower && x.Fault != api.FaultWindow {
		return true
	}
	return x.Level == api.LevelModule && x.Part == ""
}

// causes reports whether every Unless refers to units that have causes, without a cycle.
func (k *checker) causes() bool {
	unless := map[string][]string{}
	for _, x := range k.Causes {
		unless[x.Unit] = append(unless[x.Unit], x.Unless...)
	}
	// A unit is settled if all units that it refers to are settled. Each round settles a unit, or there are none left that can be; a unit without a cause, or in a cycle, never is.
	settled := map[string]bool{}
	for range k.Causes {
		for unit, l := range unless {
			settled[unit] = all(l, func(other string) bool { return settled[other] })
		}
	}
	return all(k.Causes, func(x api.Cause) bool { return settled[x.Unit] })
}
