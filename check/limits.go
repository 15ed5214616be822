package check

import "nacelle/api"

// limits reports whether all numbers are in their ranges.
func (k *checker) limits() bool {
	return atMost(api.MaxModules, k.Modules, moduleFits) &&
		atMost(api.MaxChannels, k.Channels, func(x api.Channel) bool { return len(x.To) <= api.MaxDests }) &&
		atMost(api.MaxSwitches, k.Switches, switchFits) &&
		atMost(api.MaxLinks, k.Links, func(x api.Link) bool { return within(1, api.MaxSlow)(x.Slow) }) &&
		atMost(api.MaxVLs, k.VLs, func(x api.VL) bool { return len(x.To) <= api.MaxDests }) &&
		atMost(api.MaxRows, k.Causes, causeFits) &&
		len(k.Health) <= api.MaxRows &&
		len(k.Versions) <= api.MaxRows
}

// atMost reports whether a list has at most n elements, the numbers of which are in their ranges.
func atMost[T any](n int, l []T, fits func(x T) bool) bool { return len(l) <= n && all(l, fits) }

func moduleFits(x api.Module) bool {
	return within(0, api.MaxMem)(x.Mem) && within(1, api.MaxFrames)(x.Frame) && atMost(api.MaxParts, x.Parts, partFits)
}

func partFits(x api.Part) bool {
	return within(0, api.MaxMem)(x.Mem) &&
		within(1, api.MaxFrames)(x.Period) &&
		within(1, api.MaxFrames)(x.Length) &&
		atMost(api.MaxThings, x.Semas, within(0, 255)) &&
		atMost(api.MaxThings, x.Bufs, within(1, api.MaxDepth)) &&
		x.Events <= api.MaxThings &&
		x.Boards <= api.MaxThings &&
		atMost(api.MaxPorts, x.Ports, portFits) &&
		atMost(api.MaxProcs, x.Procs, procFits)
}

func portFits(x api.Port) bool {
	size := within(1, api.MaxMessage)(x.Size)
	switch {
	case x.Kind == api.PortQueuing:
		return size && within(1, api.MaxDepth)(x.Depth)
	case x.Out:
		return size && x.Refresh == 0
	default:
		return size && x.Refresh >= 1
	}
}

func procFits(x api.Proc) bool {
	return within(0, 255)(x.Prio) && len(x.Code) <= api.MaxCode
}

func switchFits(x api.Switch) bool {
	return within(0, api.MaxDelay)(x.Delay) && within(1, api.MaxSource)(x.Store)
}

func causeFits(x api.Cause) bool {
	report := func(x api.Report) bool { return within(0, 255)(x.Code) }
	return atMost(api.MaxDests, x.Needs, report) && len(x.Unless) <= api.MaxDests
}
