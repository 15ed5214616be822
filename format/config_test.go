package format_test

import (
	"math/rand"
	"reflect"
	"strings"

	"nacelle/api"
)

// names are some words of layer 7: words of the grammar, and the longest ones.
var names = strings.Fields("a b x y2 Z_ A B WORK module mem frame part period length semas in out sampling size queuing depth proc prio limit set next " +
	"channel to switch net delay store link slow vl from bag max on level do cause needs unless works with power process halt _q0 a_name_of_23_bytes______ the_longest_name_24_bytes ZZZZZZZZZZZZZZZZZZZZZZZZ")

// badNames are no words of layer 7.
var badNames = []string{"", " ", "_", "_a", "1", "7x", "a ", " a", "a b", "a\n", "a#", "a-b", "{", ";", "a;", "a.b", "a:1", "\x00", "a\x00", "é", "aé", "a\xff", "a_name_that_has_25_bytes_", strings.Repeat("n", 99)}

// goodNumbers and badNumbers are numbers that are printable, and that are not.
var (
	goodNumbers = []int{0, 1, 2, 3, 9, 10, 11, 99, 100, 12345, 1<<30 - 1, 1 << 30}
	badNumbers  = []int{-1, -2, 1<<30 + 1, 1 << 31, 1<<32 + 1, 1<<62 + 1, 1<<63 - 1, -1 << 63, -1 << 30}
)

// someName returns any name.
func someName(r *rand.Rand) string {
	for {
		if name := pick(r, names...); word(name) {
			return name
		}
	}
}

// someNumber returns any number that is printable.
func someNumber(r *rand.Rand) int {
	if r.Intn(2) == 0 {
		return pick(r, goodNumbers...)
	}
	return r.Intn(1<<30) >> r.Intn(31)
}

// some returns up to n things.
func some[T any](r *rand.Rand, n int, thing func(r *rand.Rand) T) []T {
	var l []T
	for range r.Intn(n + 1) {
		l = append(l, thing(r))
	}
	return l
}

// atLeastOne returns 1 to n things.
func atLeastOne[T any](r *rand.Rand, n int, thing func(r *rand.Rand) T) []T {
	return append([]T{thing(r)}, some(r, n-1, thing)...)
}

// someConfig returns any printable configuration.
func someConfig(r *rand.Rand) api.Config {
	return api.Config{
		Modules:  some(r, 3, someModule),
		Channels: some(r, 2, func(r *rand.Rand) api.Channel { return api.Channel{From: someRef(r), To: atLeastOne(r, 3, someRef)} }),
		Switches: some(r, 2, func(r *rand.Rand) api.Switch {
			return api.Switch{Name: someName(r), Net: r.Intn(2), Delay: someNumber(r), Store: someNumber(r)}
		}),
		Links: some(r, 2, func(r *rand.Rand) api.Link {
			return api.Link{A: someName(r), B: someName(r), Net: r.Intn(2), Slow: someNumber(r)}
		}),
		VLs: some(r, 2, func(r *rand.Rand) api.VL {
			return api.VL{Name: someName(r), From: someRef(r), Bag: someNumber(r), Max: someNumber(r), To: atLeastOne(r, 3, someRef)}
		}),
		Health: some(r, 3, someHealth),
		Causes: some(r, 2, func(r *rand.Rand) api.Cause {
			report := func(r *rand.Rand) api.Report { return api.Report{Unit: someName(r), Code: someNumber(r)} }
			return api.Cause{Unit: someName(r), Needs: atLeastOne(r, 3, report), Unless: some(r, 3, someName)}
		}),
		Versions: some(r, 2, func(r *rand.Rand) api.Version {
			return api.Version{A: someName(r), VA: someNumber(r), B: someName(r), VB: someNumber(r)}
		}),
	}
}

func someModule(r *rand.Rand) api.Module {
	return api.Module{Name: someName(r), Mem: someNumber(r), Frame: someNumber(r), Parts: some(r, 3, somePart)}
}

func somePart(r *rand.Rand) api.Part {
	return api.Part{
		Name: someName(r), Period: someNumber(r), Length: someNumber(r), Mem: someNumber(r),
		Semas: some(r, 3, someNumber), Events: pick(r, 0, 1, someNumber(r)), Boards: pick(r, 0, 1, someNumber(r)), Bufs: some(r, 3, someNumber),
		Ports: some(r, 3, somePort), Procs: some(r, 3, someProc),
	}
}

func somePort(r *rand.Rand) api.Port {
	x := api.Port{Name: someName(r), Kind: api.PortSampling, Out: r.Intn(2) > 0, Size: someNumber(r), Refresh: someNumber(r)}
	if r.Intn(2) > 0 {
		x.Kind, x.Refresh, x.Depth = api.PortQueuing, 0, x.Refresh
	}
	return x
}

func someProc(r *rand.Rand) api.Proc {
	return api.Proc{Name: someName(r), Prio: someNumber(r), Period: someNumber(r), Limit: someNumber(r), Code: some(r, 5, someIns)}
}

func someIns(r *rand.Rand) api.Ins {
	x := api.Ins{Op: uint8(1 + r.Intn(25))}
	for i, to := range []*int{&x.A, &x.B, &x.C} {
		if strings.Contains(instructions[x.Op], string("ABC"[i])) {
			*to = someNumber(r)
		}
	}
	return x
}

func someRef(r *rand.Rand) api.Ref {
	return api.Ref{Module: someName(r), Part: someName(r), Port: someName(r)}
}

func someHealth(r *rand.Rand) api.Health {
	x := api.Health{Fault: uint8(1 + r.Intn(7)), Level: uint8(1 + r.Intn(3)), Do: uint8(1 + r.Intn(8))}
	if r.Intn(2) > 0 {
		x.Module = someName(r)
	}
	if r.Intn(2) > 0 {
		x.Part = someName(r)
	}
	return x
}

// values returns values that a number, text, boolean or slice may have, printable or not.
func values(v reflect.Value) []reflect.Value {
	var l []reflect.Value
	switch v.Kind() {
	case reflect.Int:
		for _, n := range append(badNumbers, goodNumbers...) {
			l = append(l, reflect.ValueOf(n))
		}
	case reflect.String:
		for _, name := range append(badNames, names...) {
			l = append(l, reflect.ValueOf(name))
		}
	case reflect.Uint8:
		for i := range 256 {
			l = append(l, reflect.ValueOf(uint8(i)))
		}
	case reflect.Bool:
		l = append(l, reflect.ValueOf(false), reflect.ValueOf(true))
	case reflect.Slice:
		l = append(l, reflect.Zero(v.Type()), reflect.MakeSlice(v.Type(), 0, 3), reflect.MakeSlice(v.Type(), 1, 1))
		if n := v.Len(); n > 0 {
			l = append(l, v.Slice(0, n-1), v.Slice(1, n), reflect.AppendSlice(v.Slice3(0, n, n), v), reflect.Append(v.Slice3(0, n, n), reflect.Zero(v.Type().Elem())))
		}
	}
	return l
}

// anyValue fills a value with anything, mostly with what is printable.
func anyValue(r *rand.Rand, v reflect.Value) {
	switch v.Kind() {
	case reflect.Struct:
		for i := range v.NumField() {
			anyValue(r, v.Field(i))
		}
	case reflect.Slice:
		v.Set(reflect.MakeSlice(v.Type(), r.Intn(3), 3))
		for i := range v.Len() {
			anyValue(r, v.Index(i))
		}
	case reflect.Uint8:
		v.SetUint(uint64(pick(r, r.Intn(4), r.Intn(256))))
	default:
		l := values(v)
		v.Set(l[r.Intn(len(l))])
	}
}

// ported is a configuration with one port.
func ported(x api.Port) api.Config {
	return api.Config{Modules: []api.Module{{Name: "m", Parts: []api.Part{{Name: "p", Ports: []api.Port{x}}}}}}
}

// coded is a configuration with the code of one process.
func coded(l ...api.Ins) api.Config {
	return api.Config{Modules: []api.Module{{Name: "m", Parts: []api.Part{{Name: "p", Procs: []api.Proc{{Name: "a", Code: l}}}}}}}
}
