package format_test

import (
	"math/rand"
	"reflect"
	"slices"
	"strings"
	"testing"

	"nacelle/api"
	"nacelle/format"
)

// P9.1

func TestFull(t *testing.T) {
	if got := printed(t, fullConfig()); got != full {
		t.Errorf("%s", got)
	}
	if got := model(fullConfig()); got != full {
		t.Errorf("the model says %s", got)
	}
}

// TestChapter has the examples of the chapter.
func TestChapter(t *testing.T) {
	port := api.Port{Name: "i", Kind: api.PortQueuing, Size: 8, Depth: 3}
	if got := printed(t, ported(port)); !strings.Contains(got, "\n\t\tin i queuing size 8 depth 3;\n") {
		t.Error(got)
	}
	c := api.Config{VLs: []api.VL{{Name: "v", From: api.Ref{Module: "m1", Part: "p1", Port: "o"}, Bag: 200, Max: 40,
		To: []api.Ref{{Module: "m2", Part: "p2", Port: "i"}, {Module: "m3", Part: "p1", Port: "i"}}}}}
	if got := printed(t, c); got != "vl v from m1.p1.o bag 200 max 40 to m2.p2.i, m3.p1.i;\n" {
		t.Error(got)
	}
	c = api.Config{Causes: []api.Cause{{Unit: "u", Needs: []api.Report{{Unit: "x", Code: 1}, {Unit: "y", Code: 2}}, Unless: []string{"z"}}}}
	if got := printed(t, c); got != "cause u needs x:1, y:2 unless z;\n" {
		t.Error(got)
	}
	if got, e := format.Code([]api.Ins{{Op: api.InsSet, B: 5}, {Op: api.InsNext}}); got != "set 0 5; next;" || e != api.OK {
		t.Error(got, e)
	}
	for _, x := range []api.Port{{Name: "i", Kind: 3}, {Name: "i", Kind: api.PortSampling, Depth: 1}} {
		if got, e := format.Config(ported(x)); got != "" || e != api.ErrArg || format.Valid(ported(x)) {
			t.Errorf("%v: %q, error %d", x, got, e)
		}
	}
}

// TestEmpty has configurations with nothing in them.
func TestEmpty(t *testing.T) {
	for _, c := range []api.Config{{}, {Modules: []api.Module{}, Links: []api.Link{}, Health: make([]api.Health, 0, 5), Versions: []api.Version{}}} {
		if got := printed(t, c); got != "" {
			t.Errorf("%q", got)
		}
	}
	c := api.Config{Modules: []api.Module{{Name: "m", Parts: []api.Part{{Name: "p", Semas: []int{}, Bufs: []int{}, Ports: []api.Port{}, Procs: []api.Proc{{Name: "a", Code: []api.Ins{}}}}}}}}
	if got := printed(t, c); got != "module m mem 0 frame 0 {\n\tpart p period 0 length 0 mem 0 {\n\t\tproc a prio 0 period 0 limit 0 {\n\t\t}\n\t}\n}\n" {
		t.Errorf("%q", got)
	}
	c = api.Config{Causes: []api.Cause{{Unit: "u", Needs: []api.Report{{Unit: "x"}}, Unless: []string{}}}}
	if got := printed(t, c); got != "cause u needs x:0;\n" {
		t.Errorf("%q", got)
	}
}

// TestOneThing has each thing of a partition alone.
func TestOneThing(t *testing.T) {
	for want, p := range map[string]api.Part{
		"semas 0;":                        {Semas: []int{0}},
		"semas 1, 0, 1073741824;":         {Semas: []int{1, 0, 1 << 30}},
		"events 1;":                       {Events: 1},
		"boards 1073741824;":              {Boards: 1 << 30},
		"bufs 0, 0;":                      {Bufs: []int{0, 0}},
		"in x sampling size 0 refresh 0;": {Ports: []api.Port{{Name: "x", Kind: 1}}},
		"out x sampling size 0 refresh 1073741824;": {Ports: []api.Port{{Name: "x", Kind: 1, Out: true, Refresh: 1 << 30}}},
		"in x queuing size 5 depth 0;":              {Ports: []api.Port{{Name: "x", Kind: 2, Size: 5}}},
		"out x queuing size 0 depth 1073741824;":    {Ports: []api.Port{{Name: "x", Kind: 2, Out: true, Depth: 1 << 30}}},
		"proc x prio 1 period 2 limit 3 {\n\t\t}":   {Procs: []api.Proc{{Name: "x", Prio: 1, Period: 2, Limit: 3}}},
	} {
		p.Name = "p"
		c := api.Config{Modules: []api.Module{{Name: "m", Parts: []api.Part{p}}}}
		if got := printed(t, c); got != "module m mem 0 frame 0 {\n\tpart p period 0 length 0 mem 0 {\n\t\t"+want+"\n\t}\n}\n" {
			t.Errorf("%q, but not %q", got, want)
		}
	}
}

// TestLeaves changes each number, text, boolean and slice of a configuration with items of every kind.
func TestLeaves(t *testing.T) {
	c := fullConfig()
	count := 0
	leaves(&c, func(path string, v reflect.Value) {
		count++
		for _, x := range values(v) {
			v.Set(x)
			agrees(t, c)
		}
	})
	if count < 150 {
		t.Errorf("only %d leaves", count)
	}
}

// TestRandom prints any printable configurations, and some with up to three changes.
func TestRandom(t *testing.T) {
	r := rand.New(rand.NewSource(101))
	for range 4000 {
		c := someConfig(r)
		if src := printed(t, c); src != model(c) {
			t.Errorf("%v: %q", c, src)
		}
		change(r, &c, r.Intn(4))
		agrees(t, c)
	}
}

// change changes up to n leaves of a configuration, one after the other.
func change(r *rand.Rand, c *api.Config, n int) {
	for range n {
		var places []reflect.Value
		leaves(c, func(path string, v reflect.Value) { places = append(places, v) })
		v := pick(r, places...)
		l := values(v)
		v.Set(l[r.Intn(len(l))])
	}
}

// TestNames has every byte in a name, at its beginning and after it.
func TestNames(t *testing.T) {
	for i := range 256 {
		text := string([]byte{byte(i)})
		for _, name := range []string{text, "a" + text, text + "a", "a" + text + "b", "abcdefghijklmnopqrstuvw" + text} {
			agrees(t, api.Config{Modules: []api.Module{{Name: name}}})
			agrees(t, api.Config{Health: []api.Health{{Module: name, Fault: 1, Level: 1, Do: 1}}})
			agrees(t, api.Config{Causes: []api.Cause{{Unit: "u", Needs: []api.Report{{Unit: "x"}}, Unless: []string{"v", name}}}})
		}
	}
	for _, n := range []int{23, 24, 25, 26, 1000, 1 << 16, 1<<16 + 1, 1 << 20} {
		agrees(t, api.Config{Versions: []api.Version{{A: "a", B: strings.Repeat("n", n)}}})
		agrees(t, api.Config{Versions: []api.Version{{A: "a" + strings.Repeat(" ", n), B: "b"}}})
	}
}

// TestInstructions has all numbers of instructions with operands that are 0 and not.
func TestInstructions(t *testing.T) {
	for op := range 256 {
		for _, a := range []int{0, 1, -1, 1 << 30} {
			for _, b := range []int{0, 2, 1<<30 + 1} {
				for _, c := range []int{0, 3, -1 << 62} {
					x := api.Ins{Op: uint8(op), A: a, B: b, C: c}
					agrees(t, coded(api.Ins{Op: api.InsNext}, x))
					agreesCode(t, []api.Ins{x})
					agreesCode(t, []api.Ins{{Op: api.InsStop}, x, {Op: api.InsNext}})
				}
			}
		}
	}
}

// TestConstants has all numbers of faults, levels, actions, kinds of ports, and some of networks.
func TestConstants(t *testing.T) {
	for i := range 256 {
		n := uint8(i)
		for j := range 10 {
			m := uint8(j)
			for _, x := range []api.Health{{Fault: n, Level: m, Do: m}, {Fault: m, Level: n, Do: 8}, {Fault: 7, Level: m, Do: n}} {
				agrees(t, api.Config{Health: []api.Health{x}})
			}
		}
		for _, x := range []api.Port{{Name: "o", Kind: n}, {Name: "o", Kind: n, Depth: 1}, {Name: "o", Kind: n, Refresh: 1, Out: true}, {Name: "o", Kind: n, Refresh: 1, Depth: 1}, {Name: "o", Kind: n, Refresh: -1}, {Name: "o", Kind: n, Depth: -1}} {
			agrees(t, ported(x))
		}
	}
	for net := -300; net < 300; net++ {
		agrees(t, api.Config{Switches: []api.Switch{{Name: "s", Net: net}}})
		agrees(t, api.Config{Links: []api.Link{{A: "s", B: "t", Net: net}}})
	}
}

// linked returns a configuration with links after what it has, so that its source has n bytes more, at least 22.
func linked(c api.Config, n int) api.Config {
	const shortest, longest = len("link a b net a slow 1;\n"), len("link a b net a slow 1;\n") + 2*23
	c.Links = slices.Clone(c.Links)
	for n > 0 {
		size := n
		if n > longest {
			size = shortest + 23
		}
		n -= size
		bytes := size - shortest + 2
		c.Links = append(c.Links, api.Link{A: strings.Repeat("a", bytes/2), B: strings.Repeat("b", bytes-bytes/2), Slow: 1})
	}
	return c
}

// TestLong has sources of about 2^16 bytes. What is too long may end with any item.
func TestLong(t *testing.T) {
	r := rand.New(rand.NewSource(102))
	for _, c := range []api.Config{{}, fullConfig(), {Modules: fullConfig().Modules}, {VLs: fullConfig().VLs}, someConfig(r), someConfig(r), someConfig(r), someConfig(r)} {
		size := len(printed(t, c))
		for _, n := range []int{1<<16 - 2, 1<<16 - 1, 1 << 16} {
			if got := printed(t, linked(c, n-size)); len(got) != n {
				t.Errorf("%d bytes, but not %d", len(got), n)
			}
			agrees(t, linked(c, n-size))
		}
		for _, n := range []int{1<<16 + 1, 1<<16 + 2, 1<<16 + 300, 1 << 17, 1 << 20} {
			if got, e := format.Config(linked(c, n-size)); got != "" || e != api.ErrLong || !format.Valid(linked(c, n-size)) {
				t.Errorf("%d bytes: %d, error %d", n, len(got), e)
			}
		}
	}
}

// TestLongThings has sources of about 2^16 bytes that end in each kind of list.
func TestLongThings(t *testing.T) {
	repeated := func(n int) []int { return slices.Repeat([]int{12345}, n) }
	ref := api.Ref{Module: "m", Part: "p", Port: "o"}
	part := func(p api.Part) api.Config {
		p.Name = "p"
		return api.Config{Modules: []api.Module{{Name: "m", Parts: []api.Part{p}}}}
	}
	for i, of := range []func(n int) api.Config{
		func(n int) api.Config { return part(api.Part{Semas: repeated(n)}) },
		func(n int) api.Config { return part(api.Part{Bufs: repeated(n)}) },
		func(n int) api.Config {
			return part(api.Part{Ports: slices.Repeat([]api.Port{{Name: "o", Kind: 1}}, n)})
		},
		func(n int) api.Config { return part(api.Part{Procs: slices.Repeat([]api.Proc{{Name: "a"}}, n)}) },
		func(n int) api.Config { return coded(slices.Repeat([]api.Ins{{Op: api.InsNext}}, n)...) },
		func(n int) api.Config {
			return api.Config{Modules: []api.Module{{Name: "m", Parts: slices.Repeat([]api.Part{{Name: "p"}}, n)}}}
		},
		func(n int) api.Config { return api.Config{Modules: slices.Repeat([]api.Module{{Name: "m"}}, n)} },
		func(n int) api.Config {
			return api.Config{Channels: []api.Channel{{From: ref, To: slices.Repeat([]api.Ref{ref}, n)}}}
		},
		func(n int) api.Config {
			return api.Config{VLs: []api.VL{{Name: "v", From: ref, To: slices.Repeat([]api.Ref{ref}, n)}}}
		},
		func(n int) api.Config {
			return api.Config{Causes: []api.Cause{{Unit: "u", Needs: slices.Repeat([]api.Report{{Unit: "x"}}, n)}}}
		},
		func(n int) api.Config {
			return api.Config{Causes: []api.Cause{{Unit: "u", Needs: []api.Report{{Unit: "x"}}, Unless: slices.Repeat([]string{"v"}, n)}}}
		},
		func(n int) api.Config {
			return api.Config{Health: slices.Repeat([]api.Health{{Fault: 1, Level: 1, Do: 1}}, n)}
		},
		func(n int) api.Config { return api.Config{Versions: slices.Repeat([]api.Version{{A: "a", B: "b"}}, n)} },
		func(n int) api.Config { return api.Config{Switches: slices.Repeat([]api.Switch{{Name: "s"}}, n)} },
	} {
		each := len(model(of(2))) - len(model(of(1)))
		most := (1<<16-len(model(of(1))))/each + 1
		if got := printed(t, of(most)); len(got) <= 1<<16-each || got != model(of(most)) {
			t.Errorf("%d: %d bytes", i, len(got))
		}
		for _, n := range []int{most + 1, most + 2, 3 * most} {
			if got, e := format.Config(of(n)); got != "" || e != api.ErrLong || !format.Valid(of(n)) {
				t.Errorf("%d: %d bytes, error %d", i, len(got), e)
			}
		}
	}
}

// TestBadAndLong has sources that would be too long, with something that is not printable at each place, before and after the limit.
func TestBadAndLong(t *testing.T) {
	c := linked(fullConfig(), 1<<16)
	leaves(&c, func(path string, v reflect.Value) {
		if strings.Contains(path, ".Links[") && !strings.Contains(path, ".Links[0]") && !strings.Contains(path, ".Links[1]") {
			return
		}
		for _, x := range values(v) {
			v.Set(x)
			if printable(c) {
				continue
			}
			if got, e := format.Config(c); got != "" || e != api.ErrArg || format.Valid(c) {
				t.Errorf("%s: %d bytes, error %d", path, len(got), e)
			}
			return
		}
	})
	c = linked(fullConfig(), 1<<16)
	c.Links[len(c.Links)-1].Slow = -1
	if got, e := format.Config(c); got != "" || e != api.ErrArg || format.Valid(c) {
		t.Errorf("%d bytes, error %d", len(got), e)
	}
}

// P9.2

// TestCode prints any code, and some with a change.
func TestCode(t *testing.T) {
	r := rand.New(rand.NewSource(103))
	for range 10000 {
		l := some(r, 30, someIns)
		if got, e := format.Code(l); got != codeModel(l) || e != api.OK {
			t.Errorf("%v: %q, error %d", l, got, e)
		}
		if len(l) == 0 {
			continue
		}
		x := &l[r.Intn(len(l))]
		switch r.Intn(4) {
		case 0:
			x.Op = uint8(r.Intn(256))
		case 1:
			x.A = pick(r, slices.Concat(goodNumbers, badNumbers)...)
		case 2:
			x.B = pick(r, slices.Concat(goodNumbers, badNumbers)...)
		case 3:
			x.C = pick(r, slices.Concat(goodNumbers, badNumbers)...)
		}
		agreesCode(t, l)
	}
	for _, l := range [][]api.Ins{nil, {}} {
		if got, e := format.Code(l); got != "" || e != api.OK {
			t.Errorf("%q, error %d", got, e)
		}
	}
	if got, e := format.Code([]api.Ins{{Op: api.InsWork, A: 1 << 30}, {Op: api.InsLess, A: 1, B: 2, C: 30}, {Op: api.InsNext}}); got != "work 1073741824; less 1 2 30; next;" || e != api.OK {
		t.Errorf("%q, error %d", got, e)
	}
}

// lengthy returns code with a source of n bytes, at least 24.
func lengthy(n int) []api.Ins {
	var l []api.Ins
	n++
	for n > 25 {
		l = append(l, api.Ins{Op: api.InsStop})
		n -= len("stop; ")
	}
	for _, size := range []int{n / 2, n - n/2} {
		number := 1
		for range size - len("work 1; ") {
			number *= 10
		}
		l = append(l, api.Ins{Op: api.InsWork, A: number})
	}
	return l
}

// TestLongCode has code with a source of about 2^16 bytes.
func TestLongCode(t *testing.T) {
	for n := 24; n < 100; n++ {
		if got, e := format.Code(lengthy(n)); len(got) != n || e != api.OK {
			t.Errorf("%q, error %d", got, e)
		}
	}
	for n := 1<<16 - 50; n < 1<<16+50; n++ {
		l := lengthy(n)
		agreesCode(t, l)
		agreesCode(t, slices.Concat(l[len(l)-2:], l[:len(l)-2]))
	}
	for _, n := range []int{1<<16 + 1, 1 << 17, 1 << 20} {
		l := lengthy(n)
		if got, e := format.Code(l); got != "" || e != api.ErrLong {
			t.Errorf("%d bytes, error %d", len(got), e)
		}
		for _, i := range []int{0, 1, len(l) / 2, len(l) - 1} {
			bad := slices.Clone(l)
			bad[i].Op = 26
			if got, e := format.Code(bad); got != "" || e != api.ErrArg {
				t.Errorf("%d bytes, error %d", len(got), e)
			}
		}
	}
}

// P9.3

// compares compares what Same returns with the model.
func compares(t *testing.T, c, d api.Config) {
	t.Helper()
	want := same(c, d)
	if format.Same(c, d) != want || format.Same(d, c) != want {
		t.Errorf("%v and %v: %v and %v", c, d, format.Same(c, d), format.Same(d, c))
	}
}

// TestSameLeaves compares a configuration that has items of every kind with all those that differ in one place.
func TestSameLeaves(t *testing.T) {
	c, d := fullConfig(), fullConfig()
	compares(t, c, d)
	if !format.Same(c, d) {
		t.Error("a configuration is not the same as itself")
	}
	differ := 0
	leaves(&d, func(path string, v reflect.Value) {
		for _, x := range values(v) {
			v.Set(x)
			compares(t, c, d)
			if !format.Same(c, d) {
				differ++
			}
		}
	})
	if differ < 1000 {
		t.Errorf("%d differ", differ)
	}
}

// TestSameRandom compares any configurations, printable or not.
func TestSameRandom(t *testing.T) {
	r := rand.New(rand.NewSource(104))
	for range 2000 {
		seed := r.Int63()
		c, d := someConfig(rand.New(rand.NewSource(seed))), someConfig(rand.New(rand.NewSource(seed)))
		compares(t, c, d)
		change(r, &d, 1+r.Intn(2))
		compares(t, c, d)
		compares(t, c, someConfig(r))
		var x, y api.Config
		anyValue(rand.New(rand.NewSource(seed)), reflect.ValueOf(&x).Elem())
		anyValue(rand.New(rand.NewSource(seed)), reflect.ValueOf(&y).Elem())
		compares(t, x, y)
		change(r, &y, 1)
		compares(t, x, y)
	}
}

// TestSameEmpty compares nil slices with empty ones, at every place.
func TestSameEmpty(t *testing.T) {
	c, d := fullConfig(), fullConfig()
	empty := func(v reflect.Value) reflect.Value { return reflect.MakeSlice(v.Type(), 0, 2) }
	leaves(&c, func(path string, v reflect.Value) {
		if v.Kind() != reflect.Slice {
			return
		}
		before := v.Len()
		v.SetZero()
		leaves(&d, func(other string, w reflect.Value) {
			if other != path {
				return
			}
			w.Set(empty(w))
			if !format.Same(c, d) || !format.Same(d, c) {
				t.Errorf("%s: nil is not the same as empty", path)
			}
		})
		if format.Same(c, d) != (before == 0) || format.Same(d, c) != (before == 0) {
			t.Errorf("%s: empty, and with %d elements", path, before)
		}
	})
}
