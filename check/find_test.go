package check_test

import (
	"math/rand"
	"reflect"
	"testing"

	"nacelle/api"
	"nacelle/check"
	"nacelle/parse"
)

// P10.2

func TestNode(t *testing.T) {
	c := fullConfig(t)
	for name, want := range map[string]int{"m": 0, "n": 1, "k": 2, "s": 3, "t": 4, "u": 5, "v": -1, "p": -1, "": -1, "M": -1, "m ": -1, "\x00": -1} {
		if n := check.Node(c, name); n != want {
			t.Errorf("%q is %d", name, n)
		}
	}
	if n := check.Node(api.Config{}, "m"); n != -1 {
		t.Error(n)
	}
	c = api.Config{Modules: []api.Module{{Name: "a"}, {Name: "b"}, {Name: "a"}}, Switches: []api.Switch{{Name: "b"}, {Name: "c"}, {Name: ""}, {Name: "c"}}}
	for name, want := range map[string]int{"a": 0, "b": 1, "c": 4, "": 5, "d": -1} {
		if n := check.Node(c, name); n != want {
			t.Errorf("%q is %d", name, n)
		}
	}
	c.Modules = nil
	if n := check.Node(c, "c"); n != 1 {
		t.Error(n)
	}
}

// nodeModel returns the number of the first node with a name.
func nodeModel(c api.Config, name string) int {
	for i, other := range append(called(c.Modules), called(c.Switches)...) {
		if other == name {
			return i
		}
	}
	return -1
}

func TestPort(t *testing.T) {
	c := fullConfig(t)
	for text, want := range map[[3]string][3]int{
		{"m", "p", "o"}: {0, 0, 0}, {"m", "p", "f"}: {0, 0, 3}, {"m", "q", "i"}: {0, 1, 0}, {"n", "p", "f"}: {1, 0, 2}, {"n", "r", "i"}: {1, 1, 0},
		{"k", "p", "o"}: {-1, -1, -1}, {"n", "q", "i"}: {-1, -1, -1}, {"m", "p", "z"}: {-1, -1, -1}, {"s", "p", "o"}: {-1, -1, -1}, {"", "", ""}: {-1, -1, -1}, {"m", "", "o"}: {-1, -1, -1}, {"m", "p", ""}: {-1, -1, -1}, {"m", "p", "a"}: {-1, -1, -1},
	} {
		if m, p, o := check.Port(c, api.Ref{Module: text[0], Part: text[1], Port: text[2]}); [3]int{m, p, o} != want {
			t.Errorf("%v: %d %d %d", text, m, p, o)
		}
	}
	if m, p, o := check.Port(api.Config{}, api.Ref{}); m != -1 || p != -1 || o != -1 {
		t.Error(m, p, o)
	}
}

// TestFirstPort has names that occur twice: only the first module and its first partition with a name count.
func TestFirstPort(t *testing.T) {
	part := func(name string, ports ...string) api.Part {
		p := api.Part{Name: name}
		for _, port := range ports {
			p.Ports = append(p.Ports, api.Port{Name: port})
		}
		return p
	}
	c := api.Config{Modules: []api.Module{
		{Name: "x"},
		{Name: "m", Parts: []api.Part{part("p", "a", "b", "b"), part("p", "c"), part("", "", "c")}},
		{Name: "m", Parts: []api.Part{part("q", "d")}},
	}}
	for text, want := range map[[3]string][3]int{
		{"m", "p", "a"}: {1, 0, 0}, {"m", "p", "b"}: {1, 0, 1}, {"m", "p", "c"}: {-1, -1, -1}, {"m", "q", "d"}: {-1, -1, -1}, {"m", "", ""}: {1, 2, 0}, {"m", "", "c"}: {1, 2, 1}, {"x", "p", "a"}: {-1, -1, -1},
	} {
		if m, p, o := check.Port(c, api.Ref{Module: text[0], Part: text[1], Port: text[2]}); [3]int{m, p, o} != want {
			t.Errorf("%v: %d %d %d", text, m, p, o)
		}
	}
}

// portModel returns the indices of the port of a reference.
func portModel(c api.Config, r api.Ref) [3]int {
	for i, m := range c.Modules {
		if m.Name != r.Module {
			continue
		}
		for j, p := range m.Parts {
			if p.Name != r.Part {
				continue
			}
			for k, x := range p.Ports {
				if x.Name == r.Port {
					return [3]int{i, j, k}
				}
			}
			break
		}
		break
	}
	return [3]int{-1, -1, -1}
}

// TestFind looks for all names of any configurations, consistent or not.
func TestFind(t *testing.T) {
	r := rand.New(rand.NewSource(141))
	for i := range 400 {
		c := consistent(r)
		if i%2 > 0 {
			anyValue(r, reflect.ValueOf(&c).Elem())
		}
		names := []string{"", "a", "b", "c", "m", "zz"}
		for _, name := range append(texts(c), names...) {
			if n := check.Node(c, name); n != nodeModel(c, name) {
				t.Fatalf("%q is %d in %v", name, n, c)
			}
		}
		refs := []api.Ref{{}}
		for _, m := range c.Modules {
			for _, p := range m.Parts {
				for _, x := range p.Ports {
					refs = append(refs, api.Ref{Module: m.Name, Part: p.Name, Port: x.Name}, api.Ref{Module: pick(r, names...), Part: pick(r, names...), Port: pick(r, names...)}, api.Ref{Module: m.Name, Part: p.Name, Port: pick(r, names...)})
				}
			}
		}
		for _, ref := range refs {
			if m, p, o := check.Port(c, ref); [3]int{m, p, o} != portModel(c, ref) {
				t.Fatalf("%v: %d %d %d in %v", ref, m, p, o, c)
			}
		}
	}
}

// insAgrees compares what Ins returns with the model, and returns it.
func insAgrees(t *testing.T, p api.Part, n int, x api.Ins) bool {
	t.Helper()
	got := check.Ins(p, n, x)
	if got != valid(p, n, x) {
		t.Errorf("%v, one of %d: %v in %v", x, n, got, p)
	}
	return got
}

// TestIns has instructions at the ends of the ranges of their operands.
func TestIns(t *testing.T) {
	p := fullConfig(t).Modules[0].Parts[0]
	for src, want := range map[string]bool{
		"work 0": false, "work 1": true, "work 2000": true, "work 2001": false, "set 0 0": true, "set 3 255": true, "set 4 0": false, "set 0 256": false,
		"add 3 3": true, "add 4 0": false, "add 0 4": false, "sub 0 3": true, "sub 0 4": false, "div 3 0": true, "div 4 0": false,
		"load 3 4095 3": true, "load 4 0 0": false, "load 0 4096 0": false, "load 0 0 4": false, "store 0 0 0": true, "store 0 4095 4": false,
		"send 0 3 4": true, "send 0 3 5": false, "send 0 0 0": false, "send 0 4 1": false, "send 1 0 8": true, "send 1 0 9": false, "send 2 0 1": false, "send 3 0 1": true, "send 4 0 1": false,
		"recv 2 3 3": true, "recv 0 0 0": false, "recv 3 0 0": false, "recv 4 0 0": false, "recv 2 4 0": false, "recv 2 0 4": false,
		"wait 0": true, "wait 1": true, "wait 2": false, "signal 1": true, "signal 2": false, "raise 1": true, "raise 2": false, "lower 1": true, "lower 2": false, "until 0": true, "until 2": false,
		"put 1 3": true, "put 2 0": false, "put 0 4": false, "get 0 0": true, "get 2 0": false, "get 0 4": false,
		"show 0 3": true, "show 1 0": false, "show 0 4": false, "look 0 0": true, "look 1 0": false, "clear 0": true, "clear 1": false, "next": true, "stop": true,
		"jump 0": true, "jump 6": true, "jump 7": false, "zero 3 6": true, "zero 4 0": false, "zero 0 7": false, "less 3 3 6": true, "less 4 0 0": false, "less 0 4 0": false, "less 0 0 7": false,
		"fault 0": true, "fault 255": true, "fault 256": false,
	} {
		l, _, e := parse.Code(src + ";")
		if e != api.OK || insAgrees(t, p, 7, l[0]) != want {
			t.Errorf("%s: error %d", src, e)
		}
	}
	for _, x := range []api.Ins{{}, {Op: 26}, {Op: 255}, {Op: api.InsNext, A: 1}, {Op: api.InsNext, C: 1}, {Op: api.InsSet, C: 1}, {Op: api.InsWait, B: 1}, {Op: api.InsSet, B: -1}, {Op: api.InsSend, A: -1, C: 1}, {Op: api.InsSend, C: -1}} {
		if insAgrees(t, p, 7, x) {
			t.Error(x)
		}
	}
}

// TestIndices has instructions of partitions with each number of things.
func TestIndices(t *testing.T) {
	for n := -1; n < 10; n++ {
		p := api.Part{Events: n, Boards: n}
		for i := range n {
			p.Semas, p.Bufs = append(p.Semas, 255), append(p.Bufs, i)
			p.Ports = append(p.Ports, api.Port{Out: i%2 > 0, Kind: uint8(i), Size: 2 * i})
		}
		for op := range 30 {
			for a := -1; a < 12; a++ {
				for b := -1; b < 12; b++ {
					for c := -1; c < 12; c++ {
						insAgrees(t, p, n, api.Ins{Op: uint8(op), A: a, B: b, C: c})
					}
				}
			}
		}
	}
}

// TestAnyIns has any instructions of any partitions, with numbers that are too small or too large for anything.
func TestAnyIns(t *testing.T) {
	r := rand.New(rand.NewSource(142))
	for range 30000 {
		var p api.Part
		if r.Intn(2) > 0 {
			anyValue(r, reflect.ValueOf(&p).Elem())
		} else {
			p = somePart(r, "p", 60)
		}
		x := api.Ins{Op: uint8(1 + r.Intn(25)), A: pick(r, r.Intn(9), pick(r, numbers...)), B: pick(r, r.Intn(4), pick(r, numbers...)), C: pick(r, 0, pick(r, numbers...))}
		insAgrees(t, p, pick(r, numbers...), x)
	}
	for _, n := range []int{-1 << 63, -1<<63 + 1, -1, 0} {
		for _, x := range []api.Ins{{Op: api.InsJump}, {Op: api.InsRaise}, {Op: api.InsShow}, {Op: api.InsClear}, {Op: api.InsSend}, {Op: api.InsSend, C: 1}} {
			if insAgrees(t, api.Part{Events: n, Boards: n, Ports: []api.Port{{Out: true, Size: n}}}, n, x) {
				t.Errorf("%v, with %d", x, n)
			}
		}
	}
	for _, n := range []int{1 << 30, 1<<30 + 1, 1<<63 - 1} {
		p := api.Part{Events: n, Boards: n, Ports: []api.Port{{Out: true, Size: n}}}
		for _, v := range []int{1 << 30, 1<<30 + 1, n - 1, n} {
			for _, x := range []api.Ins{{Op: api.InsJump, A: v}, {Op: api.InsRaise, A: v}, {Op: api.InsClear, A: v}, {Op: api.InsSend, C: v}} {
				insAgrees(t, p, n, x)
			}
		}
	}
}
