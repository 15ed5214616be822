package parse_test

import (
	"fmt"
	"math/rand"
	"strings"

	"nacelle/api"
)

// some returns up to n things.
func some[T any](r *rand.Rand, n int, thing func(r *rand.Rand) T) []T {
	var l []T
	for range r.Intn(n + 1) {
		l = append(l, thing(r))
	}
	return l
}

// atLeastOne returns 1 to n things.
func atLeastOne[T any](r *rand.Rand, n int, thing func(r *rand.Rand) T) []T {
	return append([]T{thing(r)}, some(r, n-1, thing)...)
}

// someConfig returns any configuration that has a source.
func someConfig(r *rand.Rand) api.Config {
	return api.Config{
		Modules:  some(r, 3, someModule),
		Channels: some(r, 2, func(r *rand.Rand) api.Channel { return api.Channel{From: someRef(r), To: atLeastOne(r, 3, someRef)} }),
		Switches: some(r, 2, func(r *rand.Rand) api.Switch {
			return api.Switch{Name: someName(r), Net: r.Intn(2), Delay: someNumber(r), Store: someNumber(r)}
		}),
		Links: some(r, 2, func(r *rand.Rand) api.Link {
			return api.Link{A: someName(r), B: someName(r), Net: r.Intn(2), Slow: someNumber(r)}
		}),
		VLs: some(r, 2, func(r *rand.Rand) api.VL {
			return api.VL{Name: someName(r), From: someRef(r), Bag: someNumber(r), Max: someNumber(r), To: atLeastOne(r, 3, someRef)}
		}),
		Health: some(r, 3, someHealth),
		Causes: some(r, 2, someCause),
		Versions: some(r, 2, func(r *rand.Rand) api.Version {
			return api.Version{A: someName(r), VA: someNumber(r), B: someName(r), VB: someNumber(r)}
		}),
	}
}

func someModule(r *rand.Rand) api.Module {
	return api.Module{Name: someName(r), Mem: someNumber(r), Frame: someNumber(r), Parts: some(r, 3, somePart)}
}

func somePart(r *rand.Rand) api.Part {
	p := api.Part{
		Name: someName(r), Period: someNumber(r), Length: someNumber(r), Mem: someNumber(r),
		Semas: some(r, 3, someNumber), Bufs: some(r, 3, someNumber),
		Ports: some(r, 3, somePort), Procs: some(r, 3, someProc),
	}
	if r.Intn(2) > 0 {
		p.Events = someNumber(r)
	}
	if r.Intn(2) > 0 {
		p.Boards = someNumber(r)
	}
	return p
}

func somePort(r *rand.Rand) api.Port {
	x := api.Port{Name: someName(r), Kind: api.PortSampling, Out: r.Intn(2) > 0, Size: someNumber(r)}
	if r.Intn(2) > 0 {
		x.Refresh = someNumber(r)
	} else {
		x.Kind, x.Depth = api.PortQueuing, someNumber(r)
	}
	return x
}

func someProc(r *rand.Rand) api.Proc {
	return api.Proc{Name: someName(r), Prio: someNumber(r), Period: someNumber(r), Limit: someNumber(r), Code: some(r, 5, someIns)}
}

func someIns(r *rand.Rand) api.Ins {
	x := api.Ins{Op: uint8(1 + r.Intn(25))}
	for i, to := range []*int{&x.A, &x.B, &x.C} {
		if i < len(instructions[x.Op][1]) {
			*to = someNumber(r)
		}
	}
	return x
}

func someRef(r *rand.Rand) api.Ref {
	return api.Ref{Module: someName(r), Part: someName(r), Port: someName(r)}
}

func someHealth(r *rand.Rand) api.Health {
	x := api.Health{Fault: uint8(1 + r.Intn(7)), Level: uint8(1 + r.Intn(3)), Do: uint8(1 + r.Intn(8))}
	if r.Intn(2) > 0 {
		x.Module = someName(r)
	}
	if r.Intn(2) > 0 {
		x.Part = someName(r)
	}
	return x
}

func someCause(r *rand.Rand) api.Cause {
	report := func(r *rand.Rand) api.Report { return api.Report{Unit: someName(r), Code: someNumber(r)} }
	return api.Cause{Unit: someName(r), Needs: atLeastOne(r, 3, report), Unless: some(r, 3, someName)}
}

// source returns the tokens of a configuration. Items of different kinds, and things, are mixed at random.
func source(r *rand.Rand, c api.Config) []string {
	return strings.Fields(strings.Join(mixed(r,
		texts(c.Modules, func(x api.Module) string {
			parts := texts(x.Parts, func(x api.Part) string { return partText(r, x) })
			return fmt.Sprintf("module %s mem %d frame %d { %s }", x.Name, x.Mem, x.Frame, strings.Join(parts, " "))
		}),
		texts(c.Channels, func(x api.Channel) string { return "channel " + refText(x.From) + " to " + refsText(x.To) + " ;" }),
		texts(c.Switches, func(x api.Switch) string {
			return fmt.Sprintf("switch %s net %c delay %d store %d ;", x.Name, 'a'+x.Net, x.Delay, x.Store)
		}),
		texts(c.Links, func(x api.Link) string {
			return fmt.Sprintf("link %s %s net %c slow %d ;", x.A, x.B, 'a'+x.Net, x.Slow)
		}),
		texts(c.VLs, func(x api.VL) string {
			return fmt.Sprintf("vl %s from %s bag %d max %d to %s ;", x.Name, refText(x.From), x.Bag, x.Max, refsText(x.To))
		}),
		texts(c.Health, healthText),
		texts(c.Causes, causeText),
		texts(c.Versions, func(x api.Version) string { return fmt.Sprintf("works %s %d with %s %d ;", x.A, x.VA, x.B, x.VB) }),
	), " "))
}

func texts[T any](l []T, text func(x T) string) []string {
	var out []string
	for _, x := range l {
		out = append(out, text(x))
	}
	return out
}

// mixed returns the elements of lists in any order that keeps the order of each list.
func mixed(r *rand.Rand, lists ...[]string) []string {
	var order []int
	for i, l := range lists {
		for range l {
			order = append(order, i)
		}
	}
	r.Shuffle(len(order), func(i, j int) { order[i], order[j] = order[j], order[i] })
	var out []string
	for _, i := range order {
		out = append(out, lists[i][0])
		lists[i] = lists[i][1:]
	}
	return out
}

func partText(r *rand.Rand, p api.Part) string {
	numbers := func(word string, l []int) []string {
		if len(l) == 0 {
			return nil
		}
		return []string{word + " " + strings.Join(texts(l, func(n int) string { return fmt.Sprint(n) }), " , ") + " ;"}
	}
	number := func(word string, n int) []string {
		if n == 0 && r.Intn(2) > 0 {
			return nil
		}
		return []string{fmt.Sprintf("%s %d ;", word, n)}
	}
	things := mixed(r, numbers("semas", p.Semas), numbers("bufs", p.Bufs), number("events", p.Events), number("boards", p.Boards), texts(p.Ports, portText), texts(p.Procs, procText))
	return fmt.Sprintf("part %s period %d length %d mem %d { %s }", p.Name, p.Period, p.Length, p.Mem, strings.Join(things, " "))
}

func portText(x api.Port) string {
	direction := map[bool]string{false: "in", true: "out"}[x.Out]
	if x.Kind == api.PortSampling {
		return fmt.Sprintf("%s %s sampling size %d refresh %d ;", direction, x.Name, x.Size, x.Refresh)
	}
	return fmt.Sprintf("%s %s queuing size %d depth %d ;", direction, x.Name, x.Size, x.Depth)
}

func procText(x api.Proc) string {
	return fmt.Sprintf("proc %s prio %d period %d limit %d { %s }", x.Name, x.Prio, x.Period, x.Limit, codeText(x.Code))
}

func codeText(l []api.Ins) string {
	return strings.Join(texts(l, func(x api.Ins) string {
		text := instructions[x.Op][0]
		for i := range instructions[x.Op][1] {
			text += fmt.Sprintf(" %d", []int{x.A, x.B, x.C}[i])
		}
		return text + " ;"
	}), " ")
}

func refText(x api.Ref) string { return x.Module + " . " + x.Part + " . " + x.Port }

func refsText(l []api.Ref) string { return strings.Join(texts(l, refText), " , ") }

func healthText(x api.Health) string {
	text := "on " + faults[x.Fault]
	if x.Module != "" {
		text += " module " + x.Module
	}
	if x.Part != "" {
		text += " part " + x.Part
	}
	return text + " level " + levels[x.Level] + " do " + actions[x.Do] + " ;"
}

func causeText(x api.Cause) string {
	text := "cause " + x.Unit + " needs " + strings.Join(texts(x.Needs, func(x api.Report) string { return fmt.Sprintf("%s : %d", x.Unit, x.Code) }), " , ")
	if len(x.Unless) > 0 {
		text += " unless " + strings.Join(x.Unless, " , ")
	}
	return text + " ;"
}
