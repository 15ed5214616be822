package format

import (
	"slices"

	"nacelle/api"
)

// Same reports whether two configurations are equal.
func Same(a, b api.Config) bool {
	return slices.EqualFunc(a.Modules, b.Modules, sameModule) &&
		slices.EqualFunc(a.Channels, b.Channels, sameChannel) &&
		slices.Equal(a.Switches, b.Switches) &&
		slices.Equal(a.Links, b.Links) &&
		slices.EqualFunc(a.VLs, b.VLs, sameVL) &&
		slices.Equal(a.Health, b.Health) &&
		slices.EqualFunc(a.Causes, b.Causes, sameCause) &&
		slices.Equal(a.Versions, b.Versions)
}

func sameModule(a, b api.Module) bool {
	return a.Name == b.Name && a.Mem == b.Mem && a.Frame == b.Frame && slices.EqualFunc(a.Parts, b.Parts, samePart)
}

func samePart(a, b api.Part) bool {
	return a.Name == b.Name && a.Period == b.Period && a.Length == b.Length && a.Mem == b.Mem &&
		slices.Equal(a.Semas, b.Semas) && a.Events == b.Events && a.Boards == b.Boards && slices.Equal(a.Bufs, b.Bufs) &&
		slices.Equal(a.Ports, b.Ports) && slices.EqualFunc(a.Procs, b.Procs, sameProc)
}

func sameProc(a, b api.Proc) bool {
	return a.Name == b.Name && a.Prio == b.Prio && a.Period == b.Period && a.Limit == b.Limit && slices.Equal(a.Code, b.Code)
}

func sameChannel(a, b api.Channel) bool {
	return a.From == b.From && slices.Equal(a.To, b.To)
}

func sameVL(a, b api.VL) bool {
	return a.Name == b.Name && a.From == b.From && a.Bag == b.Bag && a.Max == b.Max && slices.Equal(a.To, b.To)
}

func sameCause(a, b api.Cause) bool {
	return a.Unit == b.Unit && slices.Equal(a.Needs, b.Needs) && slices.Equal(a.Unless, b.Unless)
}
