package check_test

import (
	"fmt"
	"math/rand"
	"reflect"
	"slices"
	"strings"
	"testing"

	"nacelle/api"
	"nacelle/check"
)

// P10.1

// TestChapter has the examples of the chapter.
func TestChapter(t *testing.T) {
	for src, want := range map[string]api.Errno{
		"":                                      api.OK,
		"part p period 50 length 10 mem 0 { }":  api.OK,
		"part p period 30 length 10 mem 0 { }":  check.ErrTime,
		"part p period 50 length 0 mem 0 { }":   check.ErrLimit,
		"part p period 30 length 0 mem 0 { }":   check.ErrLimit,
		"part p period 100 length 10 mem 0 { }": api.OK,
	} {
		if e := check.Check(parsed(t, "module m mem 0 frame 100 {"+src+"}")); e != want {
			t.Errorf("%q: error %d", src, e)
		}
	}
	for src, want := range map[string]api.Errno{
		"send 0 1 4;": api.OK, "send 0 1 5;": check.ErrCode, "send 1 1 1;": check.ErrCode, "recv 0 1 2;": check.ErrCode,
	} {
		src = "module m mem 0 frame 100 { part p period 50 length 10 mem 0 { out o sampling size 4 refresh 0; proc a prio 1 period 0 limit 0 {" + src + "} } }"
		if e := check.Check(parsed(t, src)); e != want {
			t.Errorf("%q: error %d", src, e)
		}
	}
	if e := check.Check(parsed(t, strings.Replace(full, "bag 200", "bag 300", 1))); e != check.ErrVL {
		t.Errorf("error %d", e)
	}
	if e := check.Check(parsed(t, "module m mem 0 frame 1 { part p period 1 length 1 mem 0 { } } on power part p level module do halt;")); e != check.ErrRow {
		t.Errorf("error %d", e)
	}
	if e := check.Check(parsed(t, "cause u needs x:1 unless u;")); e != check.ErrCause {
		t.Errorf("error %d", e)
	}
}

func TestConsistent(t *testing.T) {
	for _, c := range []api.Config{{}, {Modules: []api.Module{}, Links: []api.Link{}, Causes: make([]api.Cause, 0, 4)}, fullConfig(t), greatest()} {
		if e := check.Check(c); e != api.OK {
			t.Errorf("error %d: %v", e, c)
		}
	}
}

// TestConstants compares the errors with the numbers of the chapter.
func TestConstants(t *testing.T) {
	for i, e := range order {
		if e != api.Errno(100+i) {
			t.Errorf("%d is %d", i, e)
		}
	}
}

// limit is a number with its range.
type limit struct {
	what   string
	lo, hi int
	set    func(c *api.Config, n int)
}

// limits are the numbers of the chapter's table that are not those of elements.
func limits() []limit {
	module := func(c *api.Config) *api.Module { return &c.Modules[2] }
	part := func(c *api.Config) *api.Part { return &c.Modules[3].Parts[5] }
	return []limit{
		{"mem of a module", 0, 4096, func(c *api.Config, n int) { module(c).Mem = n }},
		{"frame", 1, 2000, func(c *api.Config, n int) { module(c).Frame = n }},
		{"mem of a partition", 0, 4096, func(c *api.Config, n int) { part(c).Mem = n }},
		{"period", 1, 2000, func(c *api.Config, n int) { part(c).Period = n }},
		{"length", 1, 2000, func(c *api.Config, n int) { part(c).Length = n }},
		{"sema", 0, 255, func(c *api.Config, n int) { part(c).Semas[7] = n }},
		{"buf", 1, 16, func(c *api.Config, n int) { part(c).Bufs[7] = n }},
		{"events", 0, 8, func(c *api.Config, n int) { part(c).Events = n }},
		{"boards", 0, 8, func(c *api.Config, n int) { part(c).Boards = n }},
		{"size", 1, 64, func(c *api.Config, n int) { part(c).Ports[7].Size = n }},
		{"size of a sampling port", 1, 64, func(c *api.Config, n int) { part(c).Ports[7] = api.Port{Name: "i", Kind: 1, Size: n, Refresh: 1} }},
		{"size of an output port", 1, 64, func(c *api.Config, n int) { part(c).Ports[7] = api.Port{Name: "i", Kind: 1, Size: n, Out: true} }},
		{"depth", 1, 16, func(c *api.Config, n int) { part(c).Ports[7].Depth = n }},
		{"depth of an output port", 1, 16, func(c *api.Config, n int) { c.Modules[3].Parts[0].Ports[7].Depth = n }},
		{"refresh", 1, 1 << 30, func(c *api.Config, n int) { part(c).Ports[7] = api.Port{Name: "i", Kind: 1, Size: 1, Refresh: n} }},
		{"refresh of an output port", 0, 0, func(c *api.Config, n int) {
			part(c).Ports[7] = api.Port{Name: "i", Kind: 1, Out: true, Size: 1, Refresh: n}
		}},
		{"prio", 0, 255, func(c *api.Config, n int) { part(c).Procs[5].Prio = n }},
		{"delay", 0, 1000, func(c *api.Config, n int) { c.Switches[7].Delay = n }},
		{"store", 1, 65536, func(c *api.Config, n int) { c.Switches[7].Store = n }},
		{"slow", 1, 16, func(c *api.Config, n int) { c.Links[31].Slow = n }},
		{"code of a report", 0, 255, func(c *api.Config, n int) { c.Causes[31].Needs[7].Code = n }},
	}
}

// TestLimits has numbers at the ends of their ranges, and those next to them, in the greatest configuration.
func TestLimits(t *testing.T) {
	for _, x := range limits() {
		for _, n := range []int{x.lo, x.hi, (x.lo + x.hi + 1) / 2, x.lo - 1, x.hi + 1, 1 << 30, 1<<30 + 1, -1 << 63} {
			c := greatest()
			x.set(&c, n)
			e := agrees(t, c)
			want := check.ErrLimit
			switch {
			case n < 0 || n > 1<<30:
				want = check.ErrForm
			case x.lo <= n && n <= x.hi:
				want = api.OK
			}
			if later := e > check.ErrLimit; e != want && !(want == api.OK && later) {
				t.Errorf("%s %d: error %d", x.what, n, e)
			}
		}
	}
}

// TestLists has lists that are as long as they may be, and longer, by copies of their elements.
func TestLists(t *testing.T) {
	most := map[string]int{
		"Modules": 4, "Parts": 6, "Procs": 6, "Ports": 8, "Semas": 8, "Bufs": 8, "Code": 24, "Channels": 16, "VLs": 16, "To": 8, "Needs": 8, "Unless": 8,
		"Switches": 8, "Links": 32, "Health": 32, "Causes": 32, "Versions": 32,
	}
	c := fullConfig(t)
	seen := map[string]bool{}
	leaves(&c, func(path string, v reflect.Value) {
		if v.Kind() != reflect.Slice || v.Len() == 0 {
			return
		}
		name := path[strings.LastIndex(path, ".")+1:]
		seen[name] = true
		longer := reflect.MakeSlice(v.Type(), 0, 0)
		for range most[name] + 2 {
			longer = reflect.Append(longer, v.Index(v.Len()-1))
		}
		for n := 1; n <= most[name]+2; n++ {
			v.Set(longer.Slice(0, n))
			if e := agrees(t, c); e < check.ErrLimit && e != api.OK || (e == check.ErrLimit) != (n > most[name]) {
				t.Errorf("%d of %s: error %d", n, path, e)
			}
		}
	})
	if len(seen) != len(most) {
		t.Errorf("only %v", seen)
	}
}

// TestMany has lists of many elements.
func TestMany(t *testing.T) {
	for i := range reflect.TypeFor[api.Config]().NumField() {
		c := fullConfig(t)
		v := reflect.ValueOf(&c).Elem().Field(i)
		for v.Len() < 3000 {
			v.Set(reflect.AppendSlice(v, v))
		}
		if e := check.Check(c); e != check.ErrLimit {
			t.Errorf("%d: error %d", i, e)
		}
	}
}

// TestReplaced has configurations in which something is replaced.
func TestReplaced(t *testing.T) {
	for i, x := range []struct {
		old, by string
		e       api.Errno
	}{
		{"switch t", "switch s", check.ErrTwice}, {"switch u", "switch k", check.ErrTwice}, {"module n", "module m", check.ErrTwice}, {"module n", "module t", check.ErrTwice},
		{"part q", "part p", check.ErrTwice}, {"part r", "part p", check.ErrTwice}, {"part r", "part q", check.ErrPort},
		{"out c", "out o", check.ErrTwice}, {"out f", "out i", check.ErrTwice}, {"in o", "in i", check.ErrTwice},
		{"proc c", "proc b", check.ErrTwice}, {"proc c", "proc o", api.OK}, {"proc c", "proc m", api.OK}, {"vl w", "vl v", check.ErrTwice}, {"vl w", "vl m", check.ErrTwice},
		{"vl w", "vl s", api.OK}, {"cause w", "cause m", check.ErrCause}, {"cause w", "cause w needs z:0; cause w", api.OK},
		{"frame 60", "frame 61", check.ErrTime}, {"frame 60", "frame 120", api.OK}, {"frame 60", "frame 30", check.ErrTime}, {"period 50 length 10", "period 25 length 25", api.OK},
		{"period 50 length 10", "period 25 length 26", check.ErrTime}, {"period 50 length 10", "period 1 length 1", api.OK}, {"frame 7 {", "frame 7 { part p period 7 length 7 mem 0 { }", api.OK},
		{"frame 7 {", "frame 7 { part p period 14 length 7 mem 0 { }", check.ErrTime},
		{"period 50 limit 40", "period 50 limit 50", api.OK}, {"period 50 limit 40", "period 50 limit 51", check.ErrTime}, {"period 50 limit 40", "period 25 limit 1", check.ErrTime},
		{"period 50 limit 40", "period 75 limit 1", check.ErrTime}, {"period 50 limit 40", "period 1073741800 limit 1073741800", api.OK}, {"period 50 limit 40", "period 1073741801 limit 0", check.ErrTime},
		{"period 0 limit 999", "period 0 limit 1073741824", api.OK}, {"period 0 limit 999", "period 0 limit 0", api.OK},
		{"link m s", "link m m", check.ErrLink}, {"link s u", "link s s", check.ErrLink}, {"link m s", "link m n", check.ErrLink}, {"link m s", "link m zz", check.ErrLink},
		{"link s u", "link s zz", check.ErrLink}, {"link s u", "link zz s", check.ErrLink}, {"link m s", "link v s", check.ErrLink}, {"link s u", "link s t", check.ErrLink}, {"link s u", "link t s", check.ErrLink},
		{"link m s net a", "link m s net b", check.ErrLink}, {"link m s", "link m u", api.OK}, {"link m s", "link k s", check.ErrLink}, {"link t n", "link t k", api.OK},
		{"link t n", "link m t", check.ErrLink}, {"link t n", "link t m", check.ErrLink}, {"link t n net b", "link s n net a", check.ErrLink}, {"link k u", "link u k", api.OK},
		{"link m s net a slow 2;", "", api.OK}, {"switch t", "switch zz", check.ErrLink},
		{"channel m.p.c", "channel m.p.zz", check.ErrPort}, {"channel m.p.c", "channel m.zz.c", check.ErrPort}, {"channel m.p.c", "channel zz.p.c", check.ErrPort}, {"channel m.p.c", "channel m.q.f", check.ErrPort},
		{"channel m.p.c", "channel m.p.f", check.ErrPort}, {"channel m.p.c", "channel m.p.o", check.ErrPort}, {"channel m.p.c", "channel n.p.o", check.ErrPort},
		{"to m.q.i, m.p.i", "to m.q.i, m.q.zz", check.ErrPort}, {"to m.q.i, m.p.i", "to m.q.i, m.p.f", check.ErrPort}, {"to m.q.i, m.p.i", "to m.p.c", check.ErrPort}, {"to m.q.i, m.p.i", "to m.q.f, m.q.i, m.p.i", api.OK},
		{"to m.q.i, m.p.i", "to m.q.i, m.p.i, m.q.i", check.ErrPort}, {"to m.q.i, m.p.i", "to m.q.i, n.p.f", check.ErrPort}, {"to m.q.i, m.p.i", "to m.q.o", check.ErrPort},
		{"to m.q.i, m.p.i;", "to m.q.i; channel m.p.f to m.q.i;", check.ErrPort}, {"to m.q.i, m.p.i;", "to m.q.i; channel m.p.f to m.p.i;", check.ErrPort}, {"to m.q.i, m.p.i;", "to m.q.i; channel m.p.c to m.p.i;", check.ErrPort},
		{"to n.p.i, n.r.i", "to n.p.i, n.p.i", check.ErrPort}, {"to n.p.i, n.r.i", "to n.p.i, m.q.o", check.ErrPort}, {"to n.p.i, n.r.i", "to n.r.i", api.OK}, {"to n.p.i, n.r.i", "to n.p.f", check.ErrPort},
		{"in f queuing size 8 depth 1;", "in f queuing size 7 depth 1;", check.ErrPort}, {"in f queuing size 8 depth 1;", "out f queuing size 8 depth 1;", check.ErrPort}, {"in f queuing size 8 depth 1;", "in f sampling size 8 refresh 1;", check.ErrPort},
		{"out c queuing size 8 depth 2", "out c queuing size 8 depth 9", api.OK}, {"out c queuing size 8 depth 2", "out c queuing size 9 depth 2", check.ErrPort}, {"out c queuing size 8 depth 2", "in c queuing size 8 depth 2", check.ErrPort},
		{"vl w from n.p.o", "vl w from m.p.o", check.ErrPort}, {"vl w from n.p.o", "vl w from k.p.o", check.ErrPort}, {"vl m from m.p.f", "vl m from m.p.c", check.ErrPort}, {"to m.q.o", "to n.p.i", check.ErrPort},
		{"bag 200", "bag 0", check.ErrVL}, {"bag 200", "bag 50", check.ErrVL}, {"bag 200", "bag 1600", api.OK}, {"bag 200", "bag 12801", check.ErrVL}, {"bag 200", "bag 25600", check.ErrVL}, {"bag 200", "bag 201", check.ErrVL},
		{"max 12", "max 11", check.ErrVL}, {"max 12", "max 72", api.OK}, {"max 12", "max 73", check.ErrVL}, {"max 12", "max 0", check.ErrVL}, {"max 16", "max 15", check.ErrVL},
		{"on stack module m part p", "on stack module n part p", api.OK}, {"on stack module m part p", "on stack module m part r", check.ErrRow}, {"on stack module m part p", "on stack module k part p", check.ErrRow},
		{"on stack module m part p", "on stack module s part p", check.ErrRow}, {"on stack module m part p", "on stack module k", api.OK}, {"on stack module m part p", "on stack module u", check.ErrRow}, {"on stack module m part p", "on stack part zz", check.ErrRow},
		{"level part do cold", "level module do cold", check.ErrRow}, {"level part do cold", "level process do cold", check.ErrRow}, {"level part do cold", "level process do ignore", api.OK}, {"level part do cold", "level part do halt", check.ErrRow},
		{"on stack", "on power", check.ErrRow}, {"on stack", "on window", check.ErrRow}, {"on stack", "on numeric", api.OK}, {"on power level module do halt", "on power level part do ignore", check.ErrRow}, {"on power", "on power part p", check.ErrRow}, {"on power", "on power module m", api.OK},
		{"works k 0 with m", "works k 0 with k", check.ErrRow}, {"works k 0 with m", "works k 0 with zz", check.ErrRow}, {"works k 0 with m", "works u 0 with m", check.ErrRow}, {"works k 0 with m", "works n 0 with m", api.OK}, {"works m 1 with n 2", "works m 1 with n 2; works m 1 with n 2", api.OK},
		{"needs x:1, y:2 unless z, w", "needs x:1, x:1 unless z, z", api.OK}, {"unless z, w", "unless z, x", check.ErrCause}, {"unless z, w", "unless u", check.ErrCause}, {"unless z, w", "unless z, u", check.ErrCause},
		{"cause w needs z:0", "cause w needs z:0 unless u", check.ErrCause}, {"cause w needs z:0", "cause w needs z:0 unless z", check.ErrCause}, {"cause z needs y:9", "cause z needs y:9 unless u", check.ErrCause}, {"cause z needs y:9", "cause z needs y:9 unless z", check.ErrCause},
		{"cause z needs y:9", "cause t needs y:9 unless u", api.OK}, {"cause w needs z:0;", "", check.ErrCause}, {"cause z needs y:9;", "", api.OK}, {"cause u needs x:1, y:2 unless z, w;", "", api.OK},
	} {
		src := strings.Replace(full, x.old, x.by, 1)
		if src == full {
			t.Error(i, x.old)
		}
		if e := agrees(t, parsed(t, src)); e != x.e {
			t.Errorf("%d: %s: error %d", i, x.by, e)
		}
	}
}

// breakers change a configuration so that each of the errors applies, in their order.
var breakers = []func(c *api.Config){
	func(c *api.Config) { c.Switches[0].Net = 2 },
	func(c *api.Config) { c.Modules[0].Mem = 5000 },
	func(c *api.Config) { c.Modules[1].Parts[1].Name = "p" },
	func(c *api.Config) { c.Modules[0].Parts[0].Length = 51 },
	func(c *api.Config) { c.Modules[0].Parts[0].Procs[0].Code[1].A = 4 },
	func(c *api.Config) { c.Links[2].B = "zz" },
	func(c *api.Config) { c.Channels[0].To[1].Port = "zz" },
	func(c *api.Config) { c.VLs[0].Bag = 300 },
	func(c *api.Config) { c.Health[1].Level = 1 },
	func(c *api.Config) { c.Causes[0].Unless[0] = "u" },
}

// TestFirst has all sets of errors that apply together.
func TestFirst(t *testing.T) {
	for set := range 1 << len(breakers) {
		c := fullConfig(t)
		want := api.OK
		for i := len(breakers) - 1; i >= 0; i-- {
			if set>>i&1 > 0 {
				breakers[i](&c)
				want = order[i]
			}
		}
		if e := agrees(t, c); e != want {
			t.Errorf("%b: error %d", set, e)
		}
	}
}

// TestLeaves changes each number, text, boolean and slice of a configuration with items of every kind.
func TestLeaves(t *testing.T) {
	c := fullConfig(t)
	names := texts(c)
	count := map[api.Errno]int{}
	leaves(&c, func(path string, v reflect.Value) {
		for _, x := range values(v, names) {
			v.Set(x)
			count[agrees(t, c)]++
		}
	})
	for _, e := range append(order, api.OK) {
		if count[e] < 10 {
			t.Errorf("error %d: %d times", e, count[e])
		}
	}
}

// TestRandom checks any consistent configurations, with up to three changes.
func TestRandom(t *testing.T) {
	r := rand.New(rand.NewSource(131))
	count := map[api.Errno]int{}
	for range 1500 {
		c := consistent(r)
		if e := agrees(t, c); e != api.OK {
			t.Fatalf("error %d: %v", e, c)
		}
		change(r, &c, r.Intn(4))
		count[agrees(t, c)]++
	}
	for _, e := range append(order, api.OK) {
		if count[e] == 0 {
			t.Errorf("error %d never applies", e)
		}
	}
}

// TestTimes has all small frames, periods and lengths.
func TestTimes(t *testing.T) {
	for frame := 1; frame < 14; frame++ {
		for period := range 16 {
			for length := 1; length < 16; length++ {
				p := api.Part{Name: "p", Period: max(period, 1), Length: length}
				c := api.Config{Modules: []api.Module{{Name: "m", Frame: frame, Parts: []api.Part{p}}}}
				agrees(t, c)
				p = api.Part{Name: "p", Period: frame, Length: frame, Procs: []api.Proc{{Name: "a", Period: period, Limit: length}}}
				c.Modules[0].Parts = []api.Part{{Name: "q", Period: frame, Length: 1}, p}
				agrees(t, c)
			}
		}
	}
}

// TestLinks has all pairs of links of two modules and three switches.
func TestLinks(t *testing.T) {
	var l []api.Link
	nodes := []string{"m", "n", "s", "t", "u", "zz"}
	for _, a := range nodes {
		for _, b := range nodes {
			l = append(l, api.Link{A: a, B: b, Slow: 1}, api.Link{A: a, B: b, Net: 1, Slow: 1})
		}
	}
	c := api.Config{
		Modules:  []api.Module{{Name: "m", Frame: 1}, {Name: "n", Frame: 1}},
		Switches: []api.Switch{{Name: "s", Store: 1}, {Name: "t", Net: 1, Store: 1}, {Name: "u", Store: 1}},
	}
	ok := 0
	for _, x := range l {
		for _, y := range l {
			c.Links = []api.Link{x, y}
			if agrees(t, c) == api.OK {
				ok++
			}
		}
	}
	if ok != 14*14-2*16-2*4 {
		t.Errorf("%d pairs", ok)
	}
}

// connectable is a configuration with ports of two modules with two partitions each: inputs and outputs of two sizes and both kinds.
func connectable() (api.Config, []api.Ref) {
	var c api.Config
	refs := []api.Ref{{Module: "m", Part: "p", Port: "zz"}, {Module: "m", Part: "zz", Port: "o"}, {Module: "zz", Part: "p", Port: "o"}, {Module: "s", Part: "p", Port: "o"}}
	for _, module := range []string{"m", "n"} {
		m := api.Module{Name: module, Frame: 1}
		for _, part := range []string{"p", "q"} {
			p := api.Part{Name: part, Period: 1, Length: 1}
			for i := range 4 {
				x := api.Port{Name: id("i", i), Kind: api.PortQueuing, Out: i&1 > 0, Depth: 1, Size: 1 + i/2}
				if part == "q" && i < 2 {
					x = api.Port{Name: x.Name, Kind: api.PortSampling, Out: x.Out, Size: 1, Refresh: 1 - i}
				}
				p.Ports = append(p.Ports, x)
				refs = append(refs, api.Ref{Module: module, Part: part, Port: x.Name})
			}
			m.Parts = append(m.Parts, p)
		}
		c.Modules = append(c.Modules, m)
	}
	c.Switches = []api.Switch{{Name: "s", Store: 1}}
	return c, refs
}

// TestConnections has all channels and virtual links from a port to one or two others, and any three of them.
func TestConnections(t *testing.T) {
	c, refs := connectable()
	connected := func(inside bool, from api.Ref, to ...api.Ref) {
		if inside {
			c.Channels = append(c.Channels, api.Channel{From: from, To: to})
			return
		}
		c.VLs = append(c.VLs, api.VL{Name: id("v", len(c.VLs)), From: from, Bag: 100, Max: 72, To: to})
	}
	ok := 0
	for _, from := range refs {
		for _, to := range refs {
			for _, other := range refs {
				for _, inside := range []bool{false, true} {
					c.Channels, c.VLs = nil, nil
					connected(inside, from, to)
					agrees(t, c)
					c.Channels, c.VLs = nil, nil
					connected(inside, from, to, other)
					if agrees(t, c) == api.OK {
						ok++
					}
				}
			}
		}
	}
	if ok == 0 {
		t.Error("none is valid")
	}
	r := rand.New(rand.NewSource(132))
	for range 8000 {
		c.Channels, c.VLs = nil, nil
		for range 2 + r.Intn(2) {
			from, to := pick(r, refs...), pick(r, refs...)
			x, _ := lookup(c, from)
			y, _ := lookup(c, to)
			if x.Out && !y.Out && x.Kind == y.Kind && x.Size == y.Size {
				connected(from.Module == to.Module, from, to)
			}
		}
		agrees(t, c)
	}
}

// withoutCode returns a configuration whose processes have no instructions, so that it is checked quickly.
func withoutCode(t *testing.T) api.Config {
	c := fullConfig(t)
	for _, m := range c.Modules {
		for i := range m.Parts {
			m.Parts[i].Procs = nil
		}
	}
	return c
}

// TestGaps has all numbers as a Bag, and as a Max for every Size.
func TestGaps(t *testing.T) {
	c := withoutCode(t)
	var l []int
	for n := range 30000 {
		c.VLs[1].Bag = n
		switch check.Check(c) {
		case api.OK:
			l = append(l, n)
		case check.ErrVL:
		default:
			t.Errorf("%d: error %d", n, check.Check(c))
		}
	}
	if !slices.Equal(l, []int{100, 200, 400, 800, 1600, 3200, 6400, 12800}) {
		t.Errorf("%v are valid", l)
	}
	c = withoutCode(t)
	for size := 1; size <= 64; size++ {
		for _, place := range []*api.Port{&c.Modules[0].Parts[0].Ports[3], &c.Modules[1].Parts[0].Ports[2]} {
			place.Size = size
		}
		for n := range 80 {
			c.VLs[2].Max = n
			want := check.ErrVL
			if size+8 <= n && n <= 72 {
				want = api.OK
			}
			if e := check.Check(c); e != want {
				t.Errorf("size %d, max %d: error %d", size, n, e)
			}
		}
	}
}

// TestRows has all health and version rows of some names.
func TestRows(t *testing.T) {
	c := withoutCode(t)
	for _, module := range []string{"", "m", "n", "k", "s", "zz"} {
		for _, part := range []string{"", "p", "q", "r", "m", "zz"} {
			for fault := range uint8(9) {
				for level := range uint8(5) {
					for do := range uint8(10) {
						c.Health = []api.Health{{Fault: 1, Level: 1, Do: 2}, {Module: module, Part: part, Fault: fault, Level: level, Do: do}}
						agrees(t, c)
					}
				}
			}
		}
		for _, other := range []string{"m", "n", "k", "s", "zz"} {
			c.Versions = []api.Version{{A: "m", B: "n"}, {A: other, B: module}}
			agrees(t, c)
		}
		c.Versions = nil
	}
	c = api.Config{Health: []api.Health{{Fault: 1, Level: 1, Do: 2}, {Fault: 6, Level: 3, Do: 8}}}
	if e := check.Check(c); e != api.OK {
		t.Errorf("rows of all modules, if there are none: error %d", e)
	}
}

// TestCauses has all Unless of three causes, of different units or not.
func TestCauses(t *testing.T) {
	units := []string{"a", "b", "c", "x"}
	for _, names := range [][]string{{"a", "b", "c"}, {"a", "b", "a"}, {"c", "b", "b"}, {"a", "a", "a"}} {
		for set := range 1 << 12 {
			c := api.Config{}
			for i, name := range names {
				x := api.Cause{Unit: name, Needs: []api.Report{{Unit: "x"}}}
				for j, unit := range units {
					if set>>(4*i+j)&1 > 0 {
						x.Unless = append(x.Unless, unit)
					}
				}
				c.Causes = append(c.Causes, x)
			}
			agrees(t, c)
		}
	}
}

// TestLongCauses has units each of which refers to the next one, in any order, with and without a cycle of all of them.
func TestLongCauses(t *testing.T) {
	r := rand.New(rand.NewSource(133))
	for n := 1; n <= 32; n++ {
		for range 20 {
			c := api.Config{Causes: make([]api.Cause, n)}
			for i := range n {
				c.Causes[i] = api.Cause{Unit: fmt.Sprintf("u%d", i), Needs: []api.Report{{Unit: "x"}}, Unless: []string{fmt.Sprintf("u%d", (i+1)%n)}}
			}
			last := &c.Causes[n-1].Unless
			if e := check.Check(c); e != check.ErrCause {
				t.Errorf("a cycle of %d: error %d", n, e)
			}
			*last = nil
			r.Shuffle(n, func(i, j int) { c.Causes[i], c.Causes[j] = c.Causes[j], c.Causes[i] })
			if e := check.Check(c); e != api.OK {
				t.Errorf("a chain of %d: error %d", n, e)
			}
			c.Causes[r.Intn(n)].Unless = []string{id("u", r.Intn(n))}
			agrees(t, c)
		}
	}
}
