package check_test

import (
	"fmt"
	"math/rand"
	"reflect"
	"strings"
	"testing"

	"nacelle/api"
	"nacelle/check"
	"nacelle/format"
	"nacelle/parse"
)

// The signatures and the constants of the chapter.
var (
	_ func(api.Config) api.Errno                = check.Check
	_ func(api.Config, string) int              = check.Node
	_ func(api.Config, api.Ref) (int, int, int) = check.Port
	_ func(p api.Part, n int, x api.Ins) bool   = check.Ins
	_                                           = [...]api.Errno{check.ErrForm, check.ErrLimit, check.ErrTwice, check.ErrTime, check.ErrCode, check.ErrLink, check.ErrPort, check.ErrVL, check.ErrRow, check.ErrCause}
)

// order are the errors of the chapter, in its order.
var order = []api.Errno{check.ErrForm, check.ErrLimit, check.ErrTwice, check.ErrTime, check.ErrCode, check.ErrLink, check.ErrPort, check.ErrVL, check.ErrRow, check.ErrCause}

// letters are the operand letters of the instructions.
var letters = [...]string{"", "w", "rv", "rr", "rr", "rar", "rar", "orl", "irr", "s", "s", "e", "e", "e", "br", "br", "dr", "dr", "d", "", "j", "rj", "rrj", "rr", "c", ""}

// findings are the errors that apply to a configuration.
type findings map[api.Errno]bool

// applies notes that an error applies, if it does.
func (f findings) applies(e api.Errno, when bool) {
	if when {
		f[e] = true
	}
}

// outside notes ErrLimit for a number that is not in its range.
func (f findings) outside(n, lo, hi int) { f.applies(check.ErrLimit, n < lo || n > hi) }

// verdict is what Check returns, by the lines of the chapter: all errors that apply are found, and the first one is taken.
func verdict(c api.Config) api.Errno {
	if !format.Valid(c) {
		return check.ErrForm
	}
	f := findings{}
	f.limits(c)
	if f[check.ErrLimit] {
		return check.ErrLimit
	}
	f.twice(c)
	f.modules(c)
	f.links(c)
	f.connections(c)
	f.rows(c)
	f.causes(c)
	for _, e := range order {
		if f[e] {
			return e
		}
	}
	return api.OK
}

func (f findings) limits(c api.Config) {
	for i, n := range []int{len(c.Modules), len(c.Channels), len(c.VLs), len(c.Switches), len(c.Links), len(c.Health), len(c.Causes), len(c.Versions)} {
		f.outside(n, 0, []int{4, 16, 16, 8, 32, 32, 32, 32}[i])
	}
	for _, m := range c.Modules {
		f.outside(m.Mem, 0, 4096)
		f.outside(m.Frame, 1, 2000)
		f.outside(len(m.Parts), 0, 6)
		for _, p := range m.Parts {
			f.part(p)
		}
	}
	for _, x := range c.Channels {
		f.outside(len(x.To), 0, 8)
	}
	for _, x := range c.VLs {
		f.outside(len(x.To), 0, 8)
	}
	for _, x := range c.Switches {
		f.outside(x.Delay, 0, 1000)
		f.outside(x.Store, 1, 65536)
	}
	for _, x := range c.Links {
		f.outside(x.Slow, 1, 16)
	}
	for _, x := range c.Causes {
		f.outside(len(x.Needs), 0, 8)
		f.outside(len(x.Unless), 0, 8)
		for _, need := range x.Needs {
			f.outside(need.Code, 0, 255)
		}
	}
}

func (f findings) part(p api.Part) {
	for i, n := range []int{p.Mem, p.Period, p.Length, len(p.Procs), len(p.Ports), len(p.Semas), len(p.Bufs), p.Events, p.Boards} {
		f.outside(n, []int{0, 1, 1, 0, 0, 0, 0, 0, 0}[i], []int{4096, 2000, 2000, 6, 8, 8, 8, 8, 8}[i])
	}
	for _, n := range p.Semas {
		f.outside(n, 0, 255)
	}
	for _, n := range p.Bufs {
		f.outside(n, 1, 16)
	}
	for _, x := range p.Ports {
		f.outside(x.Size, 1, 64)
		if x.Kind == 2 {
			f.outside(x.Depth, 1, 16)
		} else if x.Out {
			f.outside(x.Refresh, 0, 0)
		} else {
			f.outside(x.Refresh, 1, 1<<30)
		}
	}
	for _, x := range p.Procs {
		f.outside(x.Prio, 0, 255)
		f.outside(len(x.Code), 0, 24)
	}
}

// repeated reports whether two of some texts are equal.
func repeated(l []string) bool {
	for i := range l {
		for j := range i {
			if l[i] == l[j] {
				return true
			}
		}
	}
	return false
}

// called returns the names of things.
func called(things any) []string {
	var l []string
	v := reflect.ValueOf(things)
	for i := range v.Len() {
		l = append(l, v.Index(i).FieldByName("Name").String())
	}
	return l
}

func (f findings) twice(c api.Config) {
	f.applies(check.ErrTwice, repeated(append(called(c.Modules), called(c.Switches)...)))
	f.applies(check.ErrTwice, repeated(called(c.VLs)))
	for _, m := range c.Modules {
		f.applies(check.ErrTwice, repeated(called(m.Parts)))
		for _, p := range m.Parts {
			f.applies(check.ErrTwice, repeated(called(p.Ports)) || repeated(called(p.Procs)))
		}
	}
}

// multiple reports whether a is some times b.
func multiple(a, b int) bool { return a/b*b == a }

func (f findings) modules(c api.Config) {
	for _, m := range c.Modules {
		for _, p := range m.Parts {
			f.applies(check.ErrTime, !multiple(m.Frame, p.Period) || p.Length > p.Period)
			for _, x := range p.Procs {
				f.applies(check.ErrTime, !multiple(x.Period, p.Period))
				f.applies(check.ErrTime, x.Period != 0 && x.Limit > x.Period)
				for _, i := range x.Code {
					f.applies(check.ErrCode, !valid(p, len(x.Code), i))
				}
			}
		}
	}
}

// valid reports whether an instruction is valid.
func valid(p api.Part, n int, x api.Ins) bool {
	if x.Op < 1 || x.Op > 25 {
		return false
	}
	for i, v := range []int{x.A, x.B, x.C} {
		letter := byte(' ')
		if i < len(letters[x.Op]) {
			letter = letters[x.Op][i]
		}
		if v < 0 || v > 1<<30 || !suits(p, n, x, letter, v) {
			return false
		}
	}
	return true
}

// suits reports whether an operand is one of its letter.
func suits(p api.Part, n int, x api.Ins, letter byte, v int) bool {
	switch letter {
	case 'w':
		return v >= 1 && v <= 2000
	case 'r':
		return v <= 3
	case 'v', 'c':
		return v <= 255
	case 'a':
		return v <= 4095
	case 'o', 'i':
		return v < len(p.Ports) && p.Ports[v].Out == (letter == 'o')
	case 's':
		return v < len(p.Semas)
	case 'b':
		return v < len(p.Bufs)
	case 'e':
		return v < p.Events
	case 'd':
		return v < p.Boards
	case 'j':
		return v < n
	case 'l':
		return v >= 1 && v <= p.Ports[x.A].Size
	default:
		return v == 0
	}
}

// kinds returns the kinds of the nodes with a name: the network of a switch, or -1 for a module.
func kinds(c api.Config, name string) []int {
	var l []int
	for _, m := range c.Modules {
		if m.Name == name {
			l = append(l, -1)
		}
	}
	for _, s := range c.Switches {
		if s.Name == name {
			l = append(l, s.Net)
		}
	}
	return l
}

func (f findings) links(c api.Config) {
	type end struct {
		module string
		net    int
	}
	count := map[end]int{}
	for _, x := range c.Links {
		a, b := kinds(c, x.A), kinds(c, x.B)
		if len(a) == 0 || len(b) == 0 || x.A == x.B {
			f.applies(check.ErrLink, true)
			continue
		}
		f.applies(check.ErrLink, a[0] == -1 && b[0] == -1)
		f.applies(check.ErrLink, a[0] != -1 && a[0] != x.Net || b[0] != -1 && b[0] != x.Net)
		if a[0] == -1 {
			count[end{x.A, x.Net}]++
		}
		if b[0] == -1 {
			count[end{x.B, x.Net}]++
		}
	}
	for _, n := range count {
		f.applies(check.ErrLink, n > 1)
	}
}

// lookup returns the port of a reference, if there is one.
func lookup(c api.Config, r api.Ref) (api.Port, bool) {
	for _, m := range c.Modules {
		for _, p := range m.Parts {
			for _, x := range p.Ports {
				if m.Name+"."+p.Name+"."+x.Name == r.Module+"."+r.Part+"."+r.Port {
					return x, true
				}
			}
		}
	}
	return api.Port{}, false
}

func (f findings) connections(c api.Config) {
	var from, to []api.Ref
	for _, x := range c.Channels {
		from, to = append(from, x.From), append(to, x.To...)
		for _, r := range x.To {
			f.connection(c, x.From, r)
			f.applies(check.ErrPort, r.Module != x.From.Module)
		}
	}
	for _, x := range c.VLs {
		from, to = append(from, x.From), append(to, x.To...)
		for _, r := range x.To {
			f.connection(c, x.From, r)
			f.applies(check.ErrPort, r.Module == x.From.Module)
		}
		f.applies(check.ErrVL, !strings.Contains(" 100 200 400 800 1600 3200 6400 12800 ", fmt.Sprintf(" %d ", x.Bag)))
		port, _ := lookup(c, x.From)
		f.applies(check.ErrVL, x.Max > 72 || x.Max-port.Size < 8)
	}
	for _, l := range [][]api.Ref{from, to} {
		for i := range l {
			for j := range i {
				f.applies(check.ErrPort, l[i] == l[j])
			}
		}
	}
}

func (f findings) connection(c api.Config, from, to api.Ref) {
	x, ok := lookup(c, from)
	y, found := lookup(c, to)
	f.applies(check.ErrPort, !ok || !found || !x.Out || y.Out || x.Kind != y.Kind || x.Size != y.Size)
}

func (f findings) rows(c api.Config) {
	for _, x := range c.Health {
		modules, parts := 0, 0
		for _, m := range c.Modules {
			if x.Module != "" && m.Name != x.Module {
				continue
			}
			modules++
			for _, p := range m.Parts {
				if p.Name == x.Part {
					parts++
				}
			}
		}
		f.applies(check.ErrRow, x.Module != "" && modules == 0)
		f.applies(check.ErrRow, x.Part != "" && parts == 0)
		f.applies(check.ErrRow, x.Do != 1 && x.Level != []uint8{0, 0, 1, 1, 2, 2, 2, 3, 3}[x.Do])
		f.applies(check.ErrRow, x.Fault >= 6 && (x.Level != 3 || x.Part != ""))
	}
	for _, x := range c.Versions {
		modules := 0
		for _, m := range c.Modules {
			if m.Name == x.A || m.Name == x.B {
				modules++
			}
		}
		f.applies(check.ErrRow, x.A == x.B || modules != 2)
	}
}

func (f findings) causes(c api.Config) {
	at := func(unit string) int {
		for i, x := range c.Causes {
			if x.Unit == unit {
				return i
			}
		}
		return -1
	}
	n := len(c.Causes)
	leads := make([][]bool, n) // from one unit to another, each given by its first cause
	for i := range leads {
		leads[i] = make([]bool, n)
	}
	for _, x := range c.Causes {
		for _, unit := range x.Unless {
			f.applies(check.ErrCause, at(unit) < 0)
			if at(unit) >= 0 {
				leads[at(x.Unit)][at(unit)] = true
			}
		}
	}
	for k := range n {
		for i := range n {
			for j := range n {
				leads[i][j] = leads[i][j] || leads[i][k] && leads[k][j]
			}
		}
	}
	for i := range n {
		f.applies(check.ErrCause, leads[i][i])
	}
}

// agrees compares what Check returns with the model, and returns it.
func agrees(t *testing.T, c api.Config) api.Errno {
	t.Helper()
	got, want := check.Check(c), verdict(c)
	if got != want {
		src, _ := format.Config(c)
		t.Errorf("error %d, but not %d: %v\n%s", got, want, c, src)
	}
	return got
}

// parsed returns the configuration of a source.
func parsed(t *testing.T, src string) api.Config {
	t.Helper()
	c, at, e := parse.Parse(src)
	if e != api.OK {
		t.Fatalf("%q: at %d, error %d", src, at, e)
	}
	return c
}

// leaves calls visit with each number, text, boolean and slice of a configuration. It may be changed there, and is restored after that.
func leaves(c *api.Config, visit func(path string, v reflect.Value)) {
	below("Config", reflect.ValueOf(c).Elem(), visit)
}

func below(path string, v reflect.Value, visit func(path string, v reflect.Value)) {
	if v.Kind() == reflect.Struct {
		for i := range v.NumField() {
			below(path+"."+v.Type().Field(i).Name, v.Field(i), visit)
		}
		return
	}
	old := reflect.New(v.Type()).Elem()
	old.Set(v)
	visit(path, v)
	v.Set(old)
	if v.Kind() == reflect.Slice {
		for i := range v.Len() {
			below(fmt.Sprintf("%s[%d]", path, i), v.Index(i), visit)
		}
	}
}

// pick returns one of some things.
func pick[T any](r *rand.Rand, l ...T) T { return l[r.Intn(len(l))] }
