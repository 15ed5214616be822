package check_test

import (
	"fmt"
	"math/rand"
	"reflect"
	"slices"
	"strings"
	"testing"

	"nacelle/api"
)

// full has items of every kind, and is consistent.
const full = `module m mem 64 frame 100 {
	part p period 50 length 10 mem 8 {
		semas 1, 0;
		events 2;
		boards 1;
		bufs 4, 1;
		out o sampling size 4 refresh 0;
		out c queuing size 8 depth 2;
		in i queuing size 8 depth 3;
		out f queuing size 8 depth 1;
		proc a prio 3 period 50 limit 40 {
			work 7; set 0 5; add 1 2; load 3 9 0; store 0 8 1; send 0 1 4; recv 2 0 1; wait 1; signal 0; raise 1; lower 0; until 1; put 1 2; get 0 3;
			show 0 1; look 0 2; clear 0; next; jump 23; zero 1 0; less 0 1 3; div 2 2; fault 9; stop;
		}
		proc b prio 0 period 0 limit 999 {
		}
		proc c prio 1 period 150 limit 150 {
			next; jump 1;
		}
	}
	part q period 100 length 5 mem 0 {
		in i queuing size 8 depth 1;
		in f queuing size 8 depth 16;
		in o sampling size 5 refresh 1;
	}
}
module n mem 0 frame 60 {
	part p period 20 length 20 mem 0 {
		in i sampling size 4 refresh 9;
		out o sampling size 5 refresh 0;
		in f queuing size 8 depth 1;
		proc b prio 0 period 40 limit 40 { send 1 0 5; jump 0; }
	}
	part r period 30 length 1 mem 1 {
		in i sampling size 4 refresh 1;
		proc b prio 0 period 30 limit 0 { recv 0 0 0; }
	}
}
module k mem 1 frame 7 {
}
channel m.p.c to m.q.i, m.p.i;
switch s net a delay 16 store 400;
switch t net b delay 0 store 1;
switch u net a delay 1 store 2;
link m s net a slow 2;
link u n net a slow 1;
link s u net a slow 3;
link u s net a slow 4;
link m t net b slow 16;
link t n net b slow 1;
link k u net a slow 1;
vl v from m.p.o bag 200 max 12 to n.p.i, n.r.i;
vl w from n.p.o bag 12800 max 72 to m.q.o;
vl m from m.p.f bag 100 max 16 to n.p.f;
on stack module m part p level part do cold;
on power level module do halt;
on window module n level module do ignore;
on raised part q level process do ignore;
on memory part r level process do restart;
on numeric module k level module do reset;
on deadline level process do stop;
cause u needs x:1, y:2 unless z, w;
cause z needs x:255 unless w;
cause w needs z:0;
cause z needs y:9;
works m 1 with n 2;
works k 0 with m 1073741824;
`

func fullConfig(t *testing.T) api.Config { return parsed(t, full) }

// id returns a name with a number.
func id(name string, i int) string { return fmt.Sprint(name, i) }

// greatest is a consistent configuration in which every number and every list is as great as it may be.
func greatest() api.Config {
	var c api.Config
	for i := range 4 {
		m := api.Module{Name: id("m", i), Mem: 4096, Frame: 2000}
		for j := range 6 {
			m.Parts = append(m.Parts, greatestPart(j))
		}
		c.Modules = append(c.Modules, m)
	}
	used := map[int]int{} // inputs of modules that are connected
	inputs := func(module, n int) []api.Ref {
		var l []api.Ref
		for range n {
			i := used[module]
			used[module]++
			l = append(l, api.Ref{Module: id("m", module), Part: id("p", 1+i/8), Port: id("o", i%8)})
		}
		return l
	}
	for i := range 16 {
		dests := 4
		if i%8 == 0 {
			dests = 8
		}
		from := api.Ref{Module: id("m", i/8), Part: "p0", Port: id("o", i%8)}
		c.Channels = append(c.Channels, api.Channel{From: from, To: inputs(i/8, dests)})
		from.Module = id("m", 2+i/8)
		c.VLs = append(c.VLs, api.VL{Name: id("v", i), From: from, Bag: 12800, Max: 72, To: inputs(3-i/8, dests)})
	}
	for i := range 8 {
		c.Switches = append(c.Switches, api.Switch{Name: id("s", i), Net: i % 2, Delay: 1000, Store: 65536})
		c.Links = append(c.Links, api.Link{A: id("m", i/2), B: id("s", i%2), Net: i % 2, Slow: 16})
		for j := range 3 {
			c.Links = append(c.Links, api.Link{A: id("s", i%2+2*j), B: id("s", 6+i%2), Net: i % 2, Slow: 16})
		}
	}
	for i := range 32 {
		c.Health = append(c.Health, api.Health{Module: id("m", i%4), Part: id("p", i%6), Fault: 5, Level: 3, Do: 8})
		cause := api.Cause{Unit: id("u", i)}
		for j := range 8 {
			cause.Needs = append(cause.Needs, api.Report{Unit: id("x", j), Code: 255})
			if i >= 8 {
				cause.Unless = append(cause.Unless, id("u", i-1-j))
			}
		}
		c.Causes = append(c.Causes, cause)
		c.Versions = append(c.Versions, api.Version{A: id("m", i%4), VA: 1 << 30, B: id("m", (i+1)%4), VB: 1 << 30})
	}
	return c
}

// greatestPart is the partition with a number. The ports of the first one are outputs.
func greatestPart(i int) api.Part {
	p := api.Part{
		Name: id("p", i), Period: 2000, Length: 2000, Mem: 4096,
		Semas: slices.Repeat([]int{255}, 8), Events: 8, Boards: 8, Bufs: slices.Repeat([]int{16}, 8),
	}
	for j := range 8 {
		p.Ports = append(p.Ports, api.Port{Name: id("o", j), Kind: api.PortQueuing, Out: i == 0, Size: 64, Depth: 16})
	}
	for j := range 6 {
		x := api.Proc{Name: id("x", j), Prio: 255, Period: 1 << 20 * 1000, Limit: 1 << 20 * 1000}
		for range 23 {
			x.Code = append(x.Code, api.Ins{Op: api.InsWork, A: 2000})
		}
		x.Code = append(x.Code, api.Ins{Op: api.InsLess, A: 3, B: 3, C: 23})
		p.Procs = append(p.Procs, x)
	}
	return p
}

// words are names. Each kind of thing takes some of them.
var words = strings.Fields("a b c m n o p q r s t u v w x y z A B module part power a_longest_name_24_bytes_")

// someNames returns up to n names that differ.
func someNames(r *rand.Rand, n int) []string {
	l := slices.Clone(words)
	r.Shuffle(len(l), func(i, j int) { l[i], l[j] = l[j], l[i] })
	return l[:min(len(l), r.Intn(n+1))]
}

// some returns up to n things.
func some[T any](r *rand.Rand, n int, thing func(r *rand.Rand) T) []T {
	var l []T
	for range r.Intn(n + 1) {
		l = append(l, thing(r))
	}
	return l
}

// number returns a number from lo to hi, often one of these.
func number(r *rand.Rand, lo, hi int) int {
	return pick(r, lo, hi, lo+r.Intn(hi-lo+1), lo+r.Intn(hi-lo+1))
}

// consistent returns any consistent configuration.
func consistent(r *rand.Rand) api.Config {
	var c api.Config
	nodes := someNames(r, 10)
	modules := min(len(nodes), r.Intn(5))
	for _, name := range nodes[:modules] {
		m := api.Module{Name: name, Mem: number(r, 0, 4096), Frame: pick(r, 1, 2, 12, 60, 97, 100, 720, 1680, 2000)}
		for _, name := range someNames(r, pick(r, 2, 6)) {
			m.Parts = append(m.Parts, somePart(r, name, m.Frame))
		}
		c.Modules = append(c.Modules, m)
	}
	for _, name := range nodes[modules:min(len(nodes), modules+8)] {
		c.Switches = append(c.Switches, api.Switch{Name: name, Net: r.Intn(2), Delay: number(r, 0, 1000), Store: number(r, 1, 65536)})
	}
	connect(r, &c)
	link(r, &c)
	c.Health = some(r, 6, func(r *rand.Rand) api.Health { return someHealth(r, c) })
	c.Causes = someCauses(r)
	if modules > 1 {
		c.Versions = some(r, 3, func(r *rand.Rand) api.Version {
			l := r.Perm(modules)
			return api.Version{A: nodes[l[0]], VA: r.Intn(9), B: nodes[l[1]], VB: number(r, 0, 1<<30)}
		})
	}
	return c
}

func somePart(r *rand.Rand, name string, frame int) api.Part {
	p := api.Part{Name: name, Period: 1 + r.Intn(frame), Mem: number(r, 0, 4096), Events: r.Intn(9), Boards: r.Intn(9)}
	for frame%p.Period != 0 {
		p.Period--
	}
	p.Length = number(r, 1, p.Period)
	p.Semas = some(r, 8, func(r *rand.Rand) int { return number(r, 0, 255) })
	p.Bufs = some(r, 8, func(r *rand.Rand) int { return number(r, 1, 16) })
	for _, name := range someNames(r, 8) {
		p.Ports = append(p.Ports, somePort(r, name))
	}
	for _, name := range someNames(r, 6) {
		x := api.Proc{Name: name, Prio: number(r, 0, 255), Period: p.Period * r.Intn(4)}
		x.Limit = number(r, 0, 3000)
		if x.Period != 0 {
			x.Limit = number(r, 0, x.Period)
		}
		n := pick(r, r.Intn(4), r.Intn(25))
		for range n {
			x.Code = append(x.Code, someIns(r, p, n))
		}
		p.Procs = append(p.Procs, x)
	}
	return p
}

func somePort(r *rand.Rand, name string) api.Port {
	x := api.Port{Name: name, Kind: pick(r, api.PortSampling, api.PortQueuing), Out: r.Intn(3) == 0, Size: pick(r, 1, 8, 64)}
	switch {
	case x.Kind == api.PortQueuing:
		x.Depth = number(r, 1, 16)
	case !x.Out:
		x.Refresh = number(r, 1, 1<<30)
	}
	return x
}

// someIns returns any instruction that is valid.
func someIns(r *rand.Rand, p api.Part, n int) api.Ins {
	for {
		x := api.Ins{Op: uint8(1 + r.Intn(25))}
		to := []*int{&x.A, &x.B, &x.C}
		for i, letter := range []byte(letters[x.Op]) {
			*to[i] = number(r, 0, map[byte]int{'w': 2000, 'r': 3, 'v': 255, 'c': 255, 'a': 4095, 'l': 64, 'j': 24}[letter])
			if strings.IndexByte("oisbed", letter) >= 0 {
				*to[i] = r.Intn(8)
			}
		}
		if valid(p, n, x) {
			return x
		}
	}
}

// connect connects ports of a configuration.
func connect(r *rand.Rand, c *api.Config) {
	var refs []api.Ref
	for _, m := range c.Modules {
		for _, p := range m.Parts {
			for _, x := range p.Ports {
				refs = append(refs, api.Ref{Module: m.Name, Part: p.Name, Port: x.Name})
			}
		}
	}
	r.Shuffle(len(refs), func(i, j int) { refs[i], refs[j] = refs[j], refs[i] })
	names := someNames(r, 16)
	used := map[api.Ref]bool{}
	for _, from := range refs {
		x, _ := lookup(*c, from)
		inside := r.Intn(2) == 0
		var to []api.Ref
		most := pick(r, 1, 2, 3, 8)
		for _, ref := range refs {
			y, _ := lookup(*c, ref)
			if !used[ref] && !y.Out && y.Kind == x.Kind && y.Size == x.Size && (ref.Module == from.Module) == inside && len(to) < most {
				to = append(to, ref)
			}
		}
		if !x.Out || len(to) == 0 || inside && len(c.Channels) == 16 || !inside && len(names) == 0 {
			continue
		}
		for _, ref := range to {
			used[ref] = true
		}
		if inside {
			c.Channels = append(c.Channels, api.Channel{From: from, To: to})
			continue
		}
		c.VLs = append(c.VLs, api.VL{Name: names[0], From: from, Bag: 100 << r.Intn(8), Max: number(r, x.Size+8, 72), To: to})
		names = names[1:]
	}
}

// link links nodes of a configuration.
func link(r *rand.Rand, c *api.Config) {
	for _, s := range c.Switches {
		for _, m := range c.Modules {
			taken := slices.ContainsFunc(c.Links, func(x api.Link) bool { return x.Net == s.Net && (x.A == m.Name || x.B == m.Name) })
			if !taken && r.Intn(3) > 0 {
				c.Links = append(c.Links, api.Link{A: m.Name, B: s.Name, Net: s.Net, Slow: number(r, 1, 16)})
			}
		}
		for _, other := range c.Switches {
			if other.Name != s.Name && other.Net == s.Net && len(c.Links) < 20 && r.Intn(3) == 0 {
				c.Links = append(c.Links, api.Link{A: other.Name, B: s.Name, Net: s.Net, Slow: number(r, 1, 16)})
			}
		}
	}
	for i := range c.Links {
		if x := &c.Links[i]; r.Intn(2) == 0 {
			x.A, x.B = x.B, x.A
		}
	}
	r.Shuffle(len(c.Links), func(i, j int) { c.Links[i], c.Links[j] = c.Links[j], c.Links[i] })
}

func someHealth(r *rand.Rand, c api.Config) api.Health {
	x := api.Health{Fault: uint8(1 + r.Intn(7)), Do: uint8(1 + r.Intn(8))}
	x.Level = []uint8{0, 0, 1, 1, 2, 2, 2, 3, 3}[x.Do]
	if x.Do == api.DoIgnore {
		x.Level = uint8(1 + r.Intn(3))
	}
	if x.Fault >= api.FaultPower {
		x.Level, x.Do = api.LevelModule, pick(r, api.DoIgnore, api.DoReset, api.DoHalt)
	}
	if len(c.Modules) == 0 {
		return x
	}
	m := pick(r, c.Modules...)
	if r.Intn(2) == 0 {
		x.Module = m.Name
	}
	if len(m.Parts) > 0 && r.Intn(2) == 0 && x.Fault < api.FaultPower {
		x.Part = pick(r, m.Parts...).Name
	}
	return x
}

// someCauses returns causes of units, each of which refers to earlier ones only, in any order.
func someCauses(r *rand.Rand) []api.Cause {
	var l []api.Cause
	units := someNames(r, 10)
	for i, unit := range units {
		for range 1 + r.Intn(2) {
			x := api.Cause{Unit: unit, Needs: []api.Report{{Unit: "x", Code: number(r, 0, 255)}, {Unit: "y"}}[:1+r.Intn(2)]}
			if i > 0 {
				x.Unless = some(r, 3, func(r *rand.Rand) string { return units[r.Intn(i)] })
			}
			l = append(l, x)
		}
	}
	r.Shuffle(len(l), func(i, j int) { l[i], l[j] = l[j], l[i] })
	return l
}

// numbers are numbers next to limits.
var numbers = []int{-1, 0, 1, 2, 3, 4, 5, 7, 8, 9, 10, 11, 12, 13, 15, 16, 17, 20, 23, 24, 25, 30, 31, 32, 33, 50, 51, 63, 64, 65, 71, 72, 73, 99, 100, 101, 200, 255, 256, 300, 400, 800, 1000, 1001, 1600, 2000, 2001, 3200, 4095, 4096, 4097, 6400, 12800, 25600, 65536, 65537, 1 << 30, 1<<30 + 1, 1<<63 - 1, -1 << 63}

// values returns values that a number, text, boolean or slice may have, in a configuration with some names.
func values(v reflect.Value, names []string) []reflect.Value {
	var l []reflect.Value
	switch v.Kind() {
	case reflect.Int:
		for _, n := range numbers {
			l = append(l, reflect.ValueOf(n))
		}
	case reflect.String:
		for _, name := range names {
			l = append(l, reflect.ValueOf(name))
		}
	case reflect.Uint8:
		for i := range 27 {
			l = append(l, reflect.ValueOf(uint8(i)))
		}
	case reflect.Bool:
		l = append(l, reflect.ValueOf(false), reflect.ValueOf(true))
	case reflect.Slice:
		l = append(l, reflect.Zero(v.Type()), reflect.MakeSlice(v.Type(), 0, 3), reflect.MakeSlice(v.Type(), 1, 1))
		if n := v.Len(); n > 0 {
			l = append(l, v.Slice(0, n-1), v.Slice(1, n), reflect.AppendSlice(v.Slice3(0, n, n), v), reflect.Append(v.Slice3(0, n, n), v.Index(n-1)), reflect.Append(v.Slice3(0, n, n), reflect.Zero(v.Type().Elem())))
		}
	}
	return l
}

// texts returns the texts of a configuration, and some others.
func texts(c api.Config) []string {
	found := map[string]bool{"": true, "_": true, "m": true, "zz": true, "a b": true}
	leaves(&c, func(path string, v reflect.Value) {
		if v.Kind() == reflect.String {
			found[v.String()] = true
		}
	})
	var l []string
	for text := range found {
		l = append(l, text)
	}
	slices.Sort(l)
	return l
}

// change changes up to n leaves of a configuration, one after the other.
func change(r *rand.Rand, c *api.Config, n int) {
	for range n {
		v := reflect.ValueOf(c).Elem()
		var places []reflect.Value
		below("", v.Field(r.Intn(v.NumField())), func(path string, v reflect.Value) { places = append(places, v) })
		v = pick(r, places...)
		v.Set(pick(r, values(v, texts(*c))...))
	}
}

// anyValue fills a value with anything.
func anyValue(r *rand.Rand, v reflect.Value) {
	switch v.Kind() {
	case reflect.Struct:
		for i := range v.NumField() {
			anyValue(r, v.Field(i))
		}
	case reflect.Slice:
		v.Set(reflect.MakeSlice(v.Type(), r.Intn(3), 3))
		for i := range v.Len() {
			anyValue(r, v.Index(i))
		}
	case reflect.Uint8:
		v.SetUint(uint64(pick(r, r.Intn(4), r.Intn(256))))
	default:
		v.Set(pick(r, values(v, []string{"", "a", "b", "c", "_", "a b"})...))
	}
}

// TestGenerated checks that the configurations of the tests above are what the tests below need.
func TestGenerated(t *testing.T) {
	r := rand.New(rand.NewSource(121))
	count := map[string]int{}
	for range 500 {
		c := consistent(r)
		if e := verdict(c); e != api.OK {
			t.Fatalf("error %d: %v", e, c)
		}
		for _, x := range []any{c.Channels, c.VLs, c.Links, c.Health, c.Causes, c.Versions} {
			count[fmt.Sprintf("%T", x)] += reflect.ValueOf(x).Len()
		}
	}
	for kind, n := range count {
		if n < 300 {
			t.Errorf("%d of %s", n, kind)
		}
	}
	for _, c := range []api.Config{greatest(), fullConfig(t), {}} {
		if e := verdict(c); e != api.OK {
			t.Fatalf("error %d: %v", e, c)
		}
	}
}
