package window

import (
	"nacelle/api"
)

// farthest is the greatest distance from 0 of the numbers of a window that may be selected.
const farthest = 1 << 30

// Owner returns the partition whose window is open at a time.
func Owner(table []api.Window, frame, t int) (part int, ok bool) {
	if !isFrame(frame) || !isTime(t) {
		return 0, false
	}
	at := t % frame
	for _, w := range table {
		if isNear(w) && w.Start <= at && at < w.Start+w.Length {
			return w.Part, true
		}
	}
	return 0, false
}

// Next returns the window that begins next.
func Next(table []api.Window, frame, t int) (w api.Window, at int, ok bool) {
	if !isFrame(frame) || !isTime(t) {
		return api.Window{}, 0, false
	}
	for _, one := range table {
		if !isNear(one) || one.Start < 0 || one.Start >= frame {
			continue
		}
		start := t + (one.Start-t%frame+frame)%frame
		if !ok || start < at {
			w, at, ok = one, start, true
		}
	}
	return w, at, ok
}

// isTime reports whether t is a time.
func isTime(t int) bool { return t >= 0 && t <= api.MaxTime }

// isNear reports whether a window may be selected.
func isNear(w api.Window) bool {
	return w.Start >= -farthest && w.Start <= farthest && w.Length >= -farthest && w.Length <= farthest
}
