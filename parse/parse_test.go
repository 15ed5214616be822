package parse_test

import (
	"fmt"
	"math/rand"
	"slices"
	"strings"
	"testing"

	"nacelle/api"
	"nacelle/lex"
	"nacelle/parse"
)

// P8.1

// long has every phrase of the grammar.
const long = `module m mem 512 frame 100 { # the first one
	part p period 50 length 10 mem 64 {
		semas 1, 0; events 2; boards 1; bufs 4, 5, 6;
		out o sampling size 8 refresh 0; in i queuing size 9 depth 3;
		proc a prio 3 period 50 limit 40 { set 0 5; work 7; next; less 0 1 3; }
		proc b prio 1 period 0 limit 2 { }
		out x queuing size 1 depth 2; in y sampling size 4 refresh 6;
	}
	part q period 100 length 1 mem 0 { }
}
module n mem 0 frame 1 { }
channel m.p.o to m.q.i, m.q.j;
switch s net b delay 16 store 400; switch t net a delay 0 store 1;
link m s net b slow 2; link t n net a slow 1;
vl v from m.p.o bag 200 max 40 to n.q.i, n.q.j;
on power level module do halt; on raised module m level part do cold;
on stack part p level process do stop; on window module m part p level part do warm;
cause u needs x:1, y:2 unless z, w; cause z needs x:3;
works m 2 with n 3;
`

func longConfig() api.Config {
	ref := func(module, part, port string) api.Ref { return api.Ref{Module: module, Part: part, Port: port} }
	return api.Config{
		Modules: []api.Module{{
			Name: "m", Mem: 512, Frame: 100,
			Parts: []api.Part{{
				Name: "p", Period: 50, Length: 10, Mem: 64,
				Semas: []int{1, 0}, Events: 2, Boards: 1, Bufs: []int{4, 5, 6},
				Ports: []api.Port{
					{Name: "o", Kind: 1, Out: true, Size: 8}, {Name: "i", Kind: 2, Size: 9, Depth: 3},
					{Name: "x", Kind: 2, Out: true, Size: 1, Depth: 2}, {Name: "y", Kind: 1, Size: 4, Refresh: 6},
				},
				Procs: []api.Proc{
					{Name: "a", Prio: 3, Period: 50, Limit: 40, Code: []api.Ins{{Op: 2, B: 5}, {Op: 1, A: 7}, {Op: 19}, {Op: 22, B: 1, C: 3}}},
					{Name: "b", Prio: 1, Limit: 2},
				},
			}, {
				Name: "q", Period: 100, Length: 1,
			}},
		}, {
			Name: "n", Frame: 1,
		}},
		Channels: []api.Channel{{From: ref("m", "p", "o"), To: []api.Ref{ref("m", "q", "i"), ref("m", "q", "j")}}},
		Switches: []api.Switch{{Name: "s", Net: 1, Delay: 16, Store: 400}, {Name: "t", Store: 1}},
		Links:    []api.Link{{A: "m", B: "s", Net: 1, Slow: 2}, {A: "t", B: "n", Slow: 1}},
		VLs:      []api.VL{{Name: "v", From: ref("m", "p", "o"), Bag: 200, Max: 40, To: []api.Ref{ref("n", "q", "i"), ref("n", "q", "j")}}},
		Health: []api.Health{
			{Fault: 6, Level: 3, Do: 8}, {Module: "m", Fault: 3, Level: 2, Do: 5},
			{Part: "p", Fault: 5, Level: 1, Do: 2}, {Module: "m", Part: "p", Fault: 7, Level: 2, Do: 4},
		},
		Causes: []api.Cause{
			{Unit: "u", Needs: []api.Report{{Unit: "x", Code: 1}, {Unit: "y", Code: 2}}, Unless: []string{"z", "w"}},
			{Unit: "z", Needs: []api.Report{{Unit: "x", Code: 3}}},
		},
		Versions: []api.Version{{A: "m", VA: 2, B: "n", VB: 3}},
	}
}

// inPart is a source that begins with a partition, and ends with things.
func inPart(things string) string {
	return "module m mem 1 frame 2 { part p period 3 length 4 mem 5 { " + things
}

// partOf parses things, and returns their partition.
func partOf(t *testing.T, things string) api.Part {
	t.Helper()
	c := parsed(t, inPart(things+" } }"))
	if len(c.Modules) != 1 || len(c.Modules[0].Parts) != 1 {
		t.Fatalf("%q: %v", things, c)
	}
	return c.Modules[0].Parts[0]
}

func TestLong(t *testing.T) {
	if got, want := parsed(t, long), longConfig(); !same(got, want) {
		t.Errorf("%v, but not %v", got, want)
	}
}

// TestChapter has the examples of the chapter.
func TestChapter(t *testing.T) {
	c := parsed(t, "module m mem 64 frame 100 { part p period 50 length 10 mem 8 { semas 1, 0; out o sampling size 4 refresh 0; proc a prio 3 period 50 limit 40 { set 0 5; send 0 0 1; next; } } } switch s net b delay 16 store 400; link m s net b slow 2;")
	want := api.Config{
		Modules: []api.Module{{Name: "m", Mem: 64, Frame: 100, Parts: []api.Part{{
			Name: "p", Period: 50, Length: 10, Mem: 8, Semas: []int{1, 0},
			Ports: []api.Port{{Name: "o", Kind: api.PortSampling, Out: true, Size: 4}},
			Procs: []api.Proc{{Name: "a", Prio: 3, Period: 50, Limit: 40, Code: []api.Ins{{Op: api.InsSet, B: 5}, {Op: api.InsSend, C: 1}, {Op: api.InsNext}}}},
		}}}},
		Switches: []api.Switch{{Name: "s", Net: 1, Delay: 16, Store: 400}},
		Links:    []api.Link{{A: "m", B: "s", Net: 1, Slow: 2}},
	}
	if !same(c, want) {
		t.Error(c)
	}
	c = parsed(t, "on stack part p level part do cold; cause u needs x : 1, y : 2 unless z;")
	want = api.Config{
		Health: []api.Health{{Part: "p", Fault: api.FaultStack, Level: api.LevelPart, Do: api.DoCold}},
		Causes: []api.Cause{{Unit: "u", Needs: []api.Report{{Unit: "x", Code: 1}, {Unit: "y", Code: 2}}, Unless: []string{"z"}}},
	}
	if !same(c, want) {
		t.Error(c)
	}
	refused(t, "vl v from m.p.o bag 200 max 40 to m2.p.i", outcome{40, parse.ErrSyntax})
	refused(t, "part p", outcome{0, parse.ErrSyntax})
	refusedCode(t, "add 1;", outcome{5, parse.ErrSyntax})
}

// TestNothing has sources without tokens.
func TestNothing(t *testing.T) {
	for _, src := range []string{"", " ", "\n", "#", "# module", " \t\r\n# ?\n#"} {
		if c := parsed(t, src); !same(c, api.Config{}) {
			t.Errorf("%q: %v", src, c)
		}
		if l := coded(t, src); len(l) != 0 {
			t.Errorf("%q: %v", src, l)
		}
	}
}

// TestNames: no word is reserved.
func TestNames(t *testing.T) {
	c := parsed(t, `module module mem 1 frame 2 { part part period 3 length 4 mem 5 {
			in in sampling size 1 refresh 2; out out queuing size 3 depth 4; in sampling queuing size 5 depth 6; out queuing sampling size 7 refresh 8;
			proc proc prio 1 period 2 limit 3 { } proc set prio 1 period 2 limit 3 { set 4 5; } } }
		channel channel.to.to to to.to.to, channel.channel.channel; switch net net a delay 1 store 2; switch b net b delay 3 store 4;
		link net net net a slow 1; link a b net b slow 2; vl from from from.bag.max bag 1 max 2 to to.to.bag;
		on power module module part part level module do reset; on stack part level level part do idle; on memory module level level process do ignore;
		cause unless needs unless:1, needs:2 unless unless, cause; works with 1 with with 2;`)
	want := api.Config{
		Modules: []api.Module{{Name: "module", Mem: 1, Frame: 2, Parts: []api.Part{{
			Name: "part", Period: 3, Length: 4, Mem: 5,
			Ports: []api.Port{{Name: "in", Kind: 1, Size: 1, Refresh: 2}, {Name: "out", Kind: 2, Out: true, Size: 3, Depth: 4}, {Name: "sampling", Kind: 2, Size: 5, Depth: 6}, {Name: "queuing", Kind: 1, Out: true, Size: 7, Refresh: 8}},
			Procs: []api.Proc{{Name: "proc", Prio: 1, Period: 2, Limit: 3}, {Name: "set", Prio: 1, Period: 2, Limit: 3, Code: []api.Ins{{Op: 2, A: 4, B: 5}}}},
		}}}},
		Channels: []api.Channel{{From: api.Ref{Module: "channel", Part: "to", Port: "to"}, To: []api.Ref{{Module: "to", Part: "to", Port: "to"}, {Module: "channel", Part: "channel", Port: "channel"}}}},
		Switches: []api.Switch{{Name: "net", Delay: 1, Store: 2}, {Name: "b", Net: 1, Delay: 3, Store: 4}},
		Links:    []api.Link{{A: "net", B: "net", Slow: 1}, {A: "a", B: "b", Net: 1, Slow: 2}},
		VLs:      []api.VL{{Name: "from", From: api.Ref{Module: "from", Part: "bag", Port: "max"}, Bag: 1, Max: 2, To: []api.Ref{{Module: "to", Part: "to", Port: "bag"}}}},
		Health:   []api.Health{{Module: "module", Part: "part", Fault: 6, Level: 3, Do: 7}, {Part: "level", Fault: 5, Level: 2, Do: 6}, {Module: "level", Fault: 2, Level: 1, Do: 1}},
		Causes:   []api.Cause{{Unit: "unless", Needs: []api.Report{{Unit: "unless", Code: 1}, {Unit: "needs", Code: 2}}, Unless: []string{"unless", "cause"}}},
		Versions: []api.Version{{A: "with", VA: 1, B: "with", VB: 2}},
	}
	if !same(c, want) {
		t.Errorf("%v, but not %v", c, want)
	}
}

// TestThings has the things of a partition, alone and in any order.
func TestThings(t *testing.T) {
	plain := api.Part{Name: "p", Period: 3, Length: 4, Mem: 5}
	for _, c := range []struct {
		things string
		want   func(p *api.Part)
	}{
		{"", func(p *api.Part) {}},
		{"semas 7;", func(p *api.Part) { p.Semas = []int{7} }},
		{"semas 0;", func(p *api.Part) { p.Semas = []int{0} }},
		{"semas 3, 1, 2, 1;", func(p *api.Part) { p.Semas = []int{3, 1, 2, 1} }},
		{"bufs 7;", func(p *api.Part) { p.Bufs = []int{7} }},
		{"bufs 0, 9;", func(p *api.Part) { p.Bufs = []int{0, 9} }},
		{"events 7;", func(p *api.Part) { p.Events = 7 }},
		{"events 0;", func(p *api.Part) {}},
		{"boards 7;", func(p *api.Part) { p.Boards = 7 }},
		{"boards 0;", func(p *api.Part) {}},
		{"boards 4; events 3; bufs 2; semas 1;", func(p *api.Part) { p.Semas, p.Bufs, p.Events, p.Boards = []int{1}, []int{2}, 3, 4 }},
		{"in i sampling size 1 refresh 2;", func(p *api.Part) { p.Ports = []api.Port{{Name: "i", Kind: 1, Size: 1, Refresh: 2}} }},
		{"out i sampling size 1 refresh 2;", func(p *api.Part) { p.Ports = []api.Port{{Name: "i", Kind: 1, Out: true, Size: 1, Refresh: 2}} }},
		{"in i queuing size 1 depth 2;", func(p *api.Part) { p.Ports = []api.Port{{Name: "i", Kind: 2, Size: 1, Depth: 2}} }},
		{"out i queuing size 1 depth 2;", func(p *api.Part) { p.Ports = []api.Port{{Name: "i", Kind: 2, Out: true, Size: 1, Depth: 2}} }},
		{"proc x prio 1 period 2 limit 3 { }", func(p *api.Part) { p.Procs = []api.Proc{{Name: "x", Prio: 1, Period: 2, Limit: 3}} }},
		{"proc x prio 1 period 2 limit 3 { stop; } events 1; proc x prio 4 period 5 limit 6 { next; stop; }", func(p *api.Part) {
			p.Events = 1
			p.Procs = []api.Proc{{Name: "x", Prio: 1, Period: 2, Limit: 3, Code: []api.Ins{{Op: 25}}}, {Name: "x", Prio: 4, Period: 5, Limit: 6, Code: []api.Ins{{Op: 19}, {Op: 25}}}}
		}},
	} {
		want := plain
		c.want(&want)
		if got := partOf(t, c.things); !same(got, want) {
			t.Errorf("%q: %v, but not %v", c.things, got, want)
		}
	}
}

// TestOptions has health rows with and without a module and a part, and all their words.
func TestOptions(t *testing.T) {
	for fault, f := range faults {
		for level, l := range levels {
			for do, d := range actions {
				for i, where := range []string{"", " module x", " part y", " module x part y"} {
					want := api.Health{Fault: fault, Level: level, Do: do}
					if i&1 > 0 {
						want.Module = "x"
					}
					if i&2 > 0 {
						want.Part = "y"
					}
					src := "on " + f + where + " level " + l + " do " + d + ";"
					if c := parsed(t, src); !same(c, api.Config{Health: []api.Health{want}}) {
						t.Errorf("%q: %v", src, c)
					}
				}
			}
		}
	}
}

// TestNumbers has numbers up to the greatest one.
func TestNumbers(t *testing.T) {
	for _, n := range []int{0, 1, 9, 10, 255, 65536, 1<<30 - 1, 1 << 30} {
		c := parsed(t, fmt.Sprintf("works a %d with b %d;", n, n))
		if !same(c, api.Config{Versions: []api.Version{{A: "a", VA: n, B: "b", VB: n}}}) {
			t.Error(n, c)
		}
	}
	refused(t, "works a 1073741825 with b 0;", outcome{8, lex.ErrNumber})
}

// TestConfigs parses the sources of any configurations.
func TestConfigs(t *testing.T) {
	r := rand.New(rand.NewSource(81))
	for range 3000 {
		c := someConfig(r)
		src := separated(r, source(r, c))
		if got := parsed(t, src); !same(got, c) {
			t.Fatalf("%q: %v, but not %v", src, got, c)
		}
	}
}

func TestSyntax(t *testing.T) {
	for _, c := range []struct {
		src string
		at  int
	}{
		{"modul m", 0}, {"Module m", 0}, {"1", 0}, {";", 0}, {"}", 0}, {" {", 1}, {"m", 0}, {"semas 1;", 0}, {"part p", 0}, {"set 0 1;", 0}, {"power", 0},
		{"module", 6}, {"module ", 7}, {"module # m", 10}, {"module\n", 7}, {"module 1", 7}, {"module m memory", 9}, {"module m mem x", 13}, {"module m mem 1 2", 15}, {"module m mem 1 frame 2 ;", 23}, {"module m mem 1 frame 2 { } ;", 27}, {"module m mem 1 frame 2 { } }", 27}, {"module m mem 1 frame 2 { module", 25}, {"module m mem 1 frame 2 { ; }", 25},
		{"module m mem 1 frame 2 { part 1", 30}, {"module m mem 1 frame 2 { part p mem 3", 32}, {"module m mem 1 frame 2 { part p period 1 length 2 mem 3 }", 56},
		{"channel a b", 10}, {"channel a.b to", 12}, {"channel a.b.c.d", 13}, {"channel a.b.1", 12}, {"channel a.b.c, d.e.f to", 13}, {"channel a.b.c to ;", 17}, {"channel a.b.c to d.e.f,;", 23}, {"channel a.b.c to d.e.f g.h.i;", 23}, {"channel a.b.c to d.e.f }", 23},
		{"switch s net 0", 13}, {"switch s net ab", 13}, {"switch s net B", 13}, {"switch s net a store 1", 15}, {"switch s net a delay 1, store 1", 22}, {"switch s net a delay 1 store 2 }", 31}, {"switch s delay 1", 9},
		{"link a, b", 6}, {"link a net net slow", 15}, {"link a b slow 1", 9}, {"link a b net c", 13}, {"link a b net a slow x", 20}, {"link a b net a slow 1 2", 22},
		{"vl 1", 3}, {"vl v to", 5}, {"vl v from a.b.c max 1", 16}, {"vl v from a.b.c bag 1 to", 22}, {"vl v from a.b.c bag 1 max 2 from", 28}, {"vl v from a.b.c bag 1 max 2 to x;", 32},
		{"on fire level part do cold;", 3}, {"on Power level", 3}, {"on 1", 3}, {"on power do halt;", 9}, {"on power part p module m", 16}, {"on power module m module n", 18}, {"on power part p part q", 16}, {"on power module level part do cold;", 30}, {"on power level do", 15}, {"on power level window", 15}, {"on power level part cold", 20}, {"on power level part do process", 23}, {"on power level part do cold ,", 28}, {"on power level part do cold warm", 28}, {"on power module 1", 16}, {"on power part ;", 14},
		{"cause u unless", 8}, {"cause u needs ;", 14}, {"cause u needs x;", 15}, {"cause u needs x.1;", 15}, {"cause u needs x:y;", 16}, {"cause u needs x:1,;", 18}, {"cause u needs x:1 y:2;", 18}, {"cause u needs x:1 unless ;", 25}, {"cause u needs x:1 unless v w;", 27}, {"cause u needs x:1 unless v,;", 27}, {"cause u needs x:1 unless v unless w;", 27}, {"cause u needs x:1 unless 1;", 25},
		{"works a with", 8}, {"works a 1 b 2;", 10}, {"works a 1 with b;", 16}, {"works a 1 with b 2", 18}, {"works a 1 with b 2 3", 19}, {"works 1", 6},
	} {
		refused(t, c.src, outcome{c.at, parse.ErrSyntax})
	}
}

func TestThingSyntax(t *testing.T) {
	start := len(inPart(""))
	for _, c := range []struct {
		things string
		at     int
	}{
		{"", 0}, {" ", 1}, {"part", 0}, {"1", 0}, {";", 0}, {"{", 0}, {"set 0 1;", 0}, {"module", 0}, {"sampling", 0}, {"} ;", 2}, {"} } ;", 4}, {"} semas 1;", 2},
		{"semas ;", 6}, {"semas x;", 6}, {"semas 1,;", 8}, {"semas 1 2;", 8}, {"semas 1 }", 8}, {"semas , 1;", 6}, {"semas", 5}, {"bufs ;", 5}, {"bufs 1, 2 3;", 10},
		{"events ;", 7}, {"events 1, 2;", 8}, {"events 1 2;", 9}, {"events 1", 8}, {"boards x;", 7}, {"boards 1, 2;", 8}, {"boards 1:", 8},
		{"in ;", 3}, {"in 1", 3}, {"in i;", 4}, {"in i stack", 5}, {"in i sampling depth", 14}, {"in i sampling size x", 19}, {"in i sampling size 1 depth 2;", 21}, {"in i sampling size 1;", 20}, {"in i sampling size 1 refresh 2 depth", 31}, {"in i queuing size 1 refresh 2;", 20}, {"out o queuing refresh", 14}, {"out o queuing size 1 depth 2 }", 29}, {"out in in", 7}, {"out", 3},
		{"proc 1", 5}, {"proc x period", 7}, {"proc x prio 1 limit", 14}, {"proc x prio 1 period 2 {", 23}, {"proc x prio 1 period 2 limit 3 ;", 31}, {"proc x prio 1 period 2 limit 3 { } ;", 35}, {"proc x prio 1 period 2 limit 3 {", 32}, {"proc x prio 1 period 2 limit 3 { ;", 33}, {"proc x prio 1 period 2 limit 3 { semas", 33}, {"proc x prio 1 period 2 limit 3 { next }", 38}, {"proc x prio 1 period 2 limit 3 { next; next", 43}, {"proc x prio 1 period 2 limit 3 { Next;", 33}, {"proc x prio 1 period 2 limit 3 { set 1;", 38}, {"proc x prio 1 period 2 limit 3 { set 1 2 3;", 41}, {"proc x prio 1 period 2 limit 3 { set r 1;", 37}, {"proc x prio 1 period 2 limit 3 { set 1, 2;", 38},
	} {
		refused(t, inPart(c.things), outcome{start + c.at, parse.ErrSyntax})
	}
}

// TestTwice has things that occur a second time; each partition may have them once.
func TestTwice(t *testing.T) {
	start := len(inPart(""))
	for _, word := range []string{"semas", "bufs", "events", "boards"} {
		for _, first := range []string{word + " 0; ", word + " 5; "} {
			n := start + len(first)
			for _, rest := range []string{" 0; } }", " 1;", "", " x", ";", " ;", " }"} {
				refused(t, inPart(first+word+rest), outcome{n, parse.ErrTwice})
			}
			between := "in i sampling size 1 refresh 2; proc x prio 1 period 2 limit 3 { } "
			refused(t, inPart(first+between+word+" 1; } }"), outcome{n + len(between), parse.ErrTwice})
			for _, other := range []string{"semas", "bufs", "events", "boards"} {
				if other != word {
					partOf(t, first+other+" 1; ")
					refused(t, inPart(first+other+" 1; "+word+" 1; "+other+" 2; } }"), outcome{n + len(other) + 4, parse.ErrTwice})
				}
			}
			// Errors before that come first, and errors in tokens come first wherever they are.
			refused(t, inPart(first+"; "+word+" 1;"), outcome{n, parse.ErrSyntax})
			refused(t, inPart(first+word+" 1; ?"), outcome{n + len(word) + 4, lex.ErrByte})
			again := first + "} part q period 3 length 4 mem 5 { " + first + "} } module n mem 1 frame 2 { part p period 3 length 4 mem 5 { " + first
			if c := parsed(t, inPart(again+"} }")); len(c.Modules) != 2 || len(c.Modules[0].Parts) != 2 {
				t.Error(again, c)
			}
			refused(t, inPart(again+word+" 1; } }"), outcome{start + len(again), parse.ErrTwice})
		}
	}
	refused(t, inPart("semas 1 semas 2;"), outcome{start + 8, parse.ErrSyntax})
	partOf(t, "in semas sampling size 1 refresh 2; semas 1; out semas sampling size 1 refresh 2; proc semas prio 1 period 2 limit 3 { }")
}

// TestLexed: errors of lex come first, wherever they are in the source.
func TestLexed(t *testing.T) {
	for _, c := range []struct {
		src string
		at  int
		e   api.Errno
	}{
		{"modul ?", 6, lex.ErrByte},
		{"works a 1 with b 2; ?", 20, lex.ErrByte},
		{"set 1 2; ?", 9, lex.ErrByte},
		{"; ; 007", 4, lex.ErrNumber},
		{"module " + strings.Repeat("m", 25), 7, lex.ErrWord},
		{"work 1; work 1x;", 13, lex.ErrNumber},
		{"next; " + strings.Repeat("m", 25), 6, lex.ErrWord},
	} {
		refused(t, c.src, outcome{c.at, c.e})
		refusedCode(t, c.src, outcome{c.at, c.e})
	}
	for _, unit := range []string{" ", "#", "works a 1 with b 2;", "next;", "?", ";"} {
		src := strings.Repeat(unit, 1<<16/len(unit)+1)
		refused(t, src[:1<<16+1], outcome{0, api.ErrLong})
		refusedCode(t, src[:1<<16+1], outcome{0, api.ErrLong})
		agrees(t, src[:1<<16])
	}
}

// TestPrefixes has every beginning of a source, cut at each byte.
func TestPrefixes(t *testing.T) {
	valid := 0
	for n := range len(long) + 1 {
		if agrees(t, long[:n]).e == api.OK {
			valid++
		}
	}
	if valid < 20 {
		t.Error(valid)
	}
}

// TestReplaced replaces each token of a source by each of many others, and inserts them.
func TestReplaced(t *testing.T) {
	tokens, _, _ := lex.Lex(long)
	others := append(slices.Clone(vocabulary), "0", "7", "{", "}", ";", ",", ".", ":")
	for i, token := range tokens {
		end := token.At + len(token.Text)
		agrees(t, long[:token.At]+long[end:])
		agrees(t, long[:end]+" "+long[token.At:])
		if i%7 == 0 {
			for _, other := range others {
				agrees(t, long[:token.At]+other+long[end:])
				agrees(t, long[:token.At]+other+" "+long[token.At:])
			}
		}
	}
}

// TestSentences compares Parse and Code with the model for sentences of the grammar, whole and changed.
func TestSentences(t *testing.T) {
	r := rand.New(rand.NewSource(82))
	count := map[api.Errno]int{}
	for i := range 20000 {
		form := []string{"<configuration>", "<module> <item>", `module NAME mem NUM frame NUM "{" <part> <part> "}"`, "<code>"}[i%4]
		l := changed(r, sentence(r, strings.Fields(form)))
		count[agrees(t, separated(r, l)).e]++
	}
	if count[api.OK] < 1000 || count[parse.ErrSyntax] < 1000 || count[parse.ErrTwice] < 500 {
		t.Error(count)
	}
}

// TestTokens has short sequences of any tokens.
func TestTokens(t *testing.T) {
	r := rand.New(rand.NewSource(83))
	for range 20000 {
		var l []string
		for range r.Intn(9) {
			l = append(l, someToken(r))
		}
		agrees(t, separated(r, l))
	}
}

// P8.2

func TestCode(t *testing.T) {
	for _, c := range []struct {
		src  string
		want []api.Ins
	}{
		{"stop;", []api.Ins{{Op: api.InsStop}}},
		{"work 3;", []api.Ins{{Op: api.InsWork, A: 3}}},
		{"set 1 2;", []api.Ins{{Op: api.InsSet, A: 1, B: 2}}},
		{"less 1 2 3;", []api.Ins{{Op: api.InsLess, A: 1, B: 2, C: 3}}},
		{"fault 1073741824;", []api.Ins{{Op: api.InsFault, A: 1 << 30}}},
		{"next;next;stop;", []api.Ins{{Op: api.InsNext}, {Op: api.InsNext}, {Op: api.InsStop}}},
		{"send 0 1 2; zero 1 0; # end", []api.Ins{{Op: api.InsSend, B: 1, C: 2}, {Op: api.InsZero, A: 1}}},
	} {
		if got := coded(t, c.src); !slices.Equal(got, c.want) {
			t.Errorf("%q: %v, but not %v", c.src, got, c.want)
		}
	}
	for op, x := range instructions {
		src, want := x[0], api.Ins{Op: op}
		for i, to := range []*int{&want.A, &want.B, &want.C}[:len(x[1])] {
			src += fmt.Sprint(" ", 10+i)
			*to = 10 + i
		}
		for _, src := range []string{src + ";", src + " ;", " " + src + "\n;\n"} {
			if got := coded(t, src); len(got) != 1 || got[0] != want {
				t.Errorf("%q: %v, but not %v", src, got, want)
			}
		}
		refusedCode(t, src, outcome{len(src), parse.ErrSyntax})
		refusedCode(t, src+" 9;", outcome{len(src) + 1, parse.ErrSyntax})
		refusedCode(t, src+"}", outcome{len(src), parse.ErrSyntax})
		refusedCode(t, strings.ToUpper(x[0]), outcome{0, parse.ErrSyntax})
		refusedCode(t, strings.ToUpper(x[0][:1])+src[1:]+";", outcome{0, parse.ErrSyntax})
		if n := len(x[1]); n > 0 {
			refusedCode(t, x[0]+strings.Repeat(" 1", n-1)+";", outcome{len(x[0]) + 2*(n-1), parse.ErrSyntax})
			refusedCode(t, x[0]+strings.Repeat(" 1", n-1)+" x;", outcome{len(x[0]) + 2*n - 1, parse.ErrSyntax})
		}
	}
}

func TestCodeSyntax(t *testing.T) {
	for _, c := range []struct {
		src string
		at  int
	}{
		{"add 1;", 5}, {"work", 4}, {"work # 1", 8}, {"work 1", 6}, {"work 1 2;", 7}, {"wor 1;", 0}, {"next; }", 6}, {"{ next; }", 0}, {"next; 1", 6}, {"next;;", 5}, {";", 0}, {"next, next;", 4},
		{"next; module", 6}, {"power", 0}, {"next;next", 9}, {"set 1, 2;", 5}, {"x", 0}, {"1", 0},
	} {
		refusedCode(t, c.src, outcome{c.at, parse.ErrSyntax})
	}
}

// TestCodes parses any code.
func TestCodes(t *testing.T) {
	r := rand.New(rand.NewSource(84))
	for range 3000 {
		l := some(r, 30, someIns)
		src := separated(r, strings.Fields(codeText(l)))
		if got := coded(t, src); !slices.Equal(got, l) {
			t.Errorf("%q: %v, but not %v", src, got, l)
		}
	}
}

// TestWords asks for the words of all numbers.
func TestWords(t *testing.T) {
	for i := range 256 {
		n := uint8(i)
		for _, c := range []struct{ what, got, want string }{
			{"word", parse.Word(n), instructions[n][0]},
			{"operands", parse.Operands(n), instructions[n][1]},
			{"fault", parse.Fault(n), faults[n]},
			{"level", parse.Level(n), levels[n]},
			{"action", parse.Action(n), actions[n]},
		} {
			if c.got != c.want {
				t.Errorf("%s of %d: %q, but not %q", c.what, n, c.got, c.want)
			}
		}
	}
	if len(instructions) != 25 || len(faults) != 7 || len(levels) != 3 || len(actions) != 8 {
		t.Error("words are missing")
	}
}
