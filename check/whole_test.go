package check_test

import (
	"fmt"
	"math/rand"
	"reflect"
	"strings"
	"sync"
	"testing"

	"nacelle/api"
	"nacelle/check"
	"nacelle/format"
)

// P10.3

// connections returns how many ports each reference of a configuration has, and how many connections each of them has.
func connections(c api.Config) (ports, connected map[api.Ref]int) {
	ports, connected = map[api.Ref]int{}, map[api.Ref]int{}
	for _, m := range c.Modules {
		for _, p := range m.Parts {
			for _, x := range p.Ports {
				ports[api.Ref{Module: m.Name, Part: p.Name, Port: x.Name}]++
			}
		}
	}
	count := func(from api.Ref, to []api.Ref) {
		connected[from]++
		for _, r := range to {
			connected[r]++
		}
	}
	for _, x := range c.Channels {
		count(x.From, x.To)
	}
	for _, x := range c.VLs {
		count(x.From, x.To)
	}
	return ports, connected
}

// TestReferences counts ports and connections of configurations that Check finds to be consistent, generated or changed.
func TestReferences(t *testing.T) {
	r := rand.New(rand.NewSource(151))
	count := 0
	for range 1500 {
		c := consistent(r)
		change(r, &c, r.Intn(3))
		if check.Check(c) != api.OK {
			continue
		}
		ports, connected := connections(c)
		for ref, n := range connected {
			count++
			if n != 1 || ports[ref] != 1 {
				t.Errorf("%v has %d ports and %d connections", ref, ports[ref], n)
			}
			if m, p, o := check.Port(c, ref); c.Modules[m].Parts[p].Ports[o].Name != ref.Port {
				t.Errorf("%v: %d %d %d", ref, m, p, o)
			}
		}
	}
	if count < 500 {
		t.Errorf("only %d references", count)
	}
}

// tables calls visit with the lists of a configuration whose order does not matter.
func tables(c *api.Config, visit func(name string, v reflect.Value)) {
	for _, name := range []string{"Channels", "VLs", "Links", "Health", "Causes", "Versions"} {
		visit(name, reflect.ValueOf(c).Elem().FieldByName(name))
	}
}

// TestOrder brings the lists of configurations, consistent or not, into any order.
func TestOrder(t *testing.T) {
	r := rand.New(rand.NewSource(152))
	for i := range 1200 {
		c := consistent(r)
		if i%8 == 0 {
			c = fullConfig(t)
		}
		change(r, &c, r.Intn(4))
		want := check.Check(c)
		tables(&c, func(name string, v reflect.Value) { r.Shuffle(v.Len(), reflect.Swapper(v.Interface())) })
		if e := agrees(t, c); e != want {
			t.Errorf("error %d, but not %d: %v", e, want, c)
		}
	}
}

// TestRemoved removes elements of consistent configurations, one after the other, until there are none.
func TestRemoved(t *testing.T) {
	r := rand.New(rand.NewSource(153))
	for i := range 300 {
		c := consistent(r)
		switch i {
		case 0:
			c = fullConfig(t)
		case 1:
			c = withoutCode(t)
		}
		tables(&c, func(name string, v reflect.Value) {
			if name == "Causes" {
				return
			}
			for v.Len() > 0 {
				n := r.Intn(v.Len())
				v.Set(reflect.AppendSlice(v.Slice3(0, n, n), v.Slice(n+1, v.Len())))
				if e := agrees(t, c); e != api.OK {
					t.Fatalf("without one of %s: error %d: %v", name, e, c)
				}
			}
		})
	}
}

// R1, R2, R7

// TestArbitrary gives arbitrary arguments to all functions.
func TestArbitrary(t *testing.T) {
	r := rand.New(rand.NewSource(154))
	for range 3000 {
		var c api.Config
		anyValue(r, reflect.ValueOf(&c).Elem())
		agrees(t, c)
		if !format.Valid(c) {
			repair(r, reflect.ValueOf(&c).Elem())
		}
		agrees(t, c)
	}
	for i := range reflect.TypeFor[api.Config]().NumField() {
		var c api.Config
		v := reflect.ValueOf(&c).Elem().Field(i)
		for n := range 3 {
			v.Set(reflect.MakeSlice(v.Type(), n, n))
			agrees(t, c)
		}
	}
}

// repair makes a configuration printable, if that is easily done.
func repair(r *rand.Rand, v reflect.Value) {
	switch v.Kind() {
	case reflect.Struct:
		for i := range v.NumField() {
			repair(r, v.Field(i))
		}
		switch x := v.Addr().Interface().(type) {
		case *api.Port:
			*x = somePort(r, x.Name)
		case *api.Ins:
			*x = api.Ins{Op: api.InsNext}
		case *api.Health:
			x.Fault, x.Level, x.Do = 1+x.Fault%7, 1+x.Level%3, 1+x.Do%8
		case *api.Switch:
			x.Net %= 2
		case *api.Link:
			x.Net %= 2
		}
	case reflect.Slice:
		if v.Len() == 0 && v.Type().Elem().Kind() == reflect.Struct {
			v.Set(reflect.MakeSlice(v.Type(), 1, 1))
		}
		for i := range v.Len() {
			repair(r, v.Index(i))
		}
	case reflect.Int:
		if n := v.Int(); n < 0 || n > 1<<30 {
			v.SetInt(int64(r.Intn(20)))
		}
	case reflect.String:
		v.SetString(pick(r, "a", "b", "c", "d"))
	}
}

// R3

// copied returns a copy of a value that shares no slice with it. The copies of slices have as much spare capacity.
func copied(v reflect.Value) reflect.Value {
	out := reflect.New(v.Type()).Elem()
	switch v.Kind() {
	case reflect.Slice:
		if v.IsNil() {
			return out
		}
		whole := v.Slice(0, v.Cap())
		out.Set(reflect.MakeSlice(v.Type(), v.Cap(), v.Cap()))
		for i := range v.Cap() {
			out.Index(i).Set(copied(whole.Index(i)))
		}
		out.Set(out.Slice(0, v.Len()))
	case reflect.Struct:
		for i := range v.NumField() {
			out.Field(i).Set(copied(v.Field(i)))
		}
	default:
		out.Set(v)
	}
	return out
}

// extended returns a value whose slices have spare capacity with something in it.
func extended(r *rand.Rand, v reflect.Value) reflect.Value {
	out := reflect.New(v.Type()).Elem()
	switch v.Kind() {
	case reflect.Slice:
		if v.IsNil() {
			return out
		}
		out.Set(reflect.MakeSlice(v.Type(), v.Len()+3, v.Len()+3))
		for i := range v.Len() {
			out.Index(i).Set(extended(r, v.Index(i)))
		}
		for i := v.Len(); i < out.Len(); i++ {
			anyValue(r, out.Index(i))
		}
		out.Set(out.Slice(0, v.Len()))
	case reflect.Struct:
		for i := range v.NumField() {
			out.Field(i).Set(extended(r, v.Field(i)))
		}
	default:
		out.Set(v)
	}
	return out
}

// unchanged reports whether two values are equal, with the spare capacity of slices, and with nil being no empty slice.
func unchanged(a, b reflect.Value) bool {
	switch a.Kind() {
	case reflect.Slice:
		if a.IsNil() != b.IsNil() || a.Len() != b.Len() || a.Cap() != b.Cap() {
			return false
		}
		a, b = a.Slice(0, a.Cap()), b.Slice(0, b.Cap())
		for i := range a.Len() {
			if !unchanged(a.Index(i), b.Index(i)) {
				return false
			}
		}
		return true
	case reflect.Struct:
		for i := range a.NumField() {
			if !unchanged(a.Field(i), b.Field(i)) {
				return false
			}
		}
		return true
	default:
		return a.Equal(b)
	}
}

// TestArguments checks that no function changes its arguments, or their spare capacity, and that none looks at that.
func TestArguments(t *testing.T) {
	r := rand.New(rand.NewSource(155))
	for i := range 300 {
		c := consistent(r)
		if i == 0 {
			c = fullConfig(t)
		}
		change(r, &c, r.Intn(2))
		v := extended(r, reflect.ValueOf(c))
		before := copied(v)
		c = v.Interface().(api.Config)
		agrees(t, c)
		check.Node(c, "zz")
		for ref := range refs(c) {
			check.Port(c, ref)
		}
		for _, m := range c.Modules {
			for _, p := range m.Parts {
				insAgrees(t, p, 5, api.Ins{Op: uint8(r.Intn(26)), A: r.Intn(3), B: r.Intn(3), C: r.Intn(3)})
			}
		}
		if !unchanged(v, before) {
			t.Errorf("%v was changed to %v", before, v)
		}
	}
}

// refs returns the references of the ports of a configuration.
func refs(c api.Config) map[api.Ref]int {
	ports, _ := connections(c)
	return ports
}

// R4

// TestRepeated compares results of many calls at the same time with those of the same calls one after the other.
func TestRepeated(t *testing.T) {
	r := rand.New(rand.NewSource(156))
	configs := []api.Config{fullConfig(t), greatest(), {}}
	for range 60 {
		c := consistent(r)
		change(r, &c, r.Intn(4))
		configs = append(configs, c)
	}
	run := func() string {
		var out strings.Builder
		for _, c := range configs {
			fmt.Fprintln(&out, check.Check(c), check.Node(c, "s"))
			for _, m := range c.Modules {
				for _, p := range m.Parts {
					for _, x := range p.Ports {
						i, j, k := check.Port(c, api.Ref{Module: m.Name, Part: p.Name, Port: x.Name})
						fmt.Fprintln(&out, i, j, k, check.Ins(p, k, api.Ins{Op: uint8(k), A: j}))
					}
				}
			}
		}
		return out.String()
	}
	want := run()
	var group sync.WaitGroup
	for range 4 {
		group.Go(func() {
			if run() != want {
				t.Error("results differ")
			}
		})
	}
	group.Wait()
}

// R5

// TestEmptyLists replaces nil slices by empty ones and the other way round, at every place.
func TestEmptyLists(t *testing.T) {
	c := fullConfig(t)
	count := 0
	leaves(&c, func(path string, v reflect.Value) {
		if v.Kind() != reflect.Slice {
			return
		}
		count++
		v.SetZero()
		want := agrees(t, c)
		v.Set(reflect.MakeSlice(v.Type(), 0, 2))
		if e := agrees(t, c); e != want {
			t.Errorf("%s: error %d if it is empty, %d if it is nil", path, e, want)
		}
	})
	if count < 40 {
		t.Errorf("only %d lists", count)
	}
	if check.Ins(api.Part{}, 1, api.Ins{Op: api.InsWait}) || check.Ins(api.Part{Semas: []int{}}, 1, api.Ins{Op: api.InsWait}) {
		t.Error("there is no semaphore")
	}
}
