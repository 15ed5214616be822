package format_test

import (
	"fmt"
	"math/rand"
	"reflect"
	"slices"
	"strings"
	"sync"
	"testing"
	"unsafe"

	"nacelle/api"
	"nacelle/format"
	"nacelle/lex"
	"nacelle/parse"
)

// P9.4

// TestParsed parses what was printed.
func TestParsed(t *testing.T) {
	r := rand.New(rand.NewSource(111))
	for range 4000 {
		c := someConfig(r)
		d := parsed(t, printed(t, c))
		if !format.Same(c, d) || !same(c, d) {
			t.Errorf("%v is parsed as %v", c, d)
		}
		l := some(r, 30, someIns)
		src, _ := format.Code(l)
		if code, at, e := parse.Code(src); !slices.Equal(code, l) || at != 0 || e != api.OK {
			t.Errorf("%q: %v, at %d, error %d", src, code, at, e)
		}
	}
	if !format.Same(parsed(t, full), fullConfig()) {
		t.Error(parsed(t, full))
	}
}

// TestPrintedLeaves changes a configuration with items of every kind at one place. If it is printable, what is printed can be parsed, and differs from what the unchanged one is printed as.
func TestPrintedLeaves(t *testing.T) {
	c := fullConfig()
	sources := map[string]string{}
	leaves(&c, func(path string, v reflect.Value) {
		for _, x := range values(v) {
			v.Set(x)
			src, e := format.Config(c)
			if e != api.OK {
				continue
			}
			if d := parsed(t, src); !format.Same(c, d) {
				t.Errorf("%s: %v is parsed as %v", path, c, d)
			}
			if (src == full) != format.Same(c, fullConfig()) {
				t.Errorf("%s: %q", path, src)
			}
			what := fmt.Sprint(c)
			if other, ok := sources[src]; ok && other != what {
				t.Errorf("%s: %s and %s have one source", path, other, what)
			}
			sources[src] = what
		}
	})
	if len(sources) < 500 {
		t.Errorf("only %d sources", len(sources))
	}
}

// respaced returns a source with other blanks and comments between its tokens.
func respaced(r *rand.Rand, src string) string {
	tokens, _, _ := lex.Lex(src)
	var out strings.Builder
	for _, token := range tokens {
		out.WriteString(pick(r, " ", "\n", "\t", " # } \n", "\r\n  "))
		out.WriteString(token.Text)
	}
	return out.String()
}

// TestPrintable prints what was parsed from sources that are not printed ones: their blanks differ, there are things in another order, and there are events and boards that are 0.
func TestPrintable(t *testing.T) {
	r := rand.New(rand.NewSource(112))
	for range 2000 {
		first := printed(t, someConfig(r))
		src := respaced(r, first)
		if got := printed(t, parsed(t, src)); got != first {
			t.Errorf("%q is printed as %q", src, got)
		}
	}
	src := `works a 1 with b 2; link a b net b slow 3; on memory level part do idle;
		module m mem 1 frame 2 { part p period 3 length 4 mem 5 { proc x prio 6 period 7 limit 8 { set 0 1 ; stop; } bufs 9 ,10; boards 0; in i queuing size 1 depth 2; events 0; semas 0; } }
		switch s net a delay 4 store 5; cause u needs x : 1; works c 3 with d 4;`
	want := "module m mem 1 frame 2 {\n\tpart p period 3 length 4 mem 5 {\n\t\tsemas 0;\n\t\tbufs 9, 10;\n\t\tin i queuing size 1 depth 2;\n\t\tproc x prio 6 period 7 limit 8 {\n\t\t\tset 0 1;\n\t\t\tstop;\n\t\t}\n\t}\n}\n" +
		"switch s net a delay 4 store 5;\nlink a b net b slow 3;\non memory level part do idle;\ncause u needs x:1;\nworks a 1 with b 2;\nworks c 3 with d 4;\n"
	if got := printed(t, parsed(t, src)); got != want {
		t.Errorf("%s", got)
	}
}

// TestParsedIsValid parses sources whose printed form is longer than a source may be.
func TestParsedIsValid(t *testing.T) {
	src := "module m mem 0 frame 0{part p period 0 length 0 mem 0{proc x prio 0 period 0 limit 0{" + strings.Repeat("next;", 12000) + "}}}"
	c := parsed(t, src)
	if got, e := format.Config(c); got != "" || e != api.ErrLong || !format.Valid(c) {
		t.Errorf("%d bytes, error %d", len(got), e)
	}
}

// R1, R2, R7

// TestArbitrary gives arbitrary configurations and code to all functions.
func TestArbitrary(t *testing.T) {
	r := rand.New(rand.NewSource(113))
	for range 1500 {
		var c, d api.Config
		anyValue(r, reflect.ValueOf(&c).Elem())
		anyValue(r, reflect.ValueOf(&d).Elem())
		agrees(t, c)
		compares(t, c, d)
		var l []api.Ins
		anyValue(r, reflect.ValueOf(&l).Elem())
		agreesCode(t, l)
	}
	for i := range reflect.TypeFor[api.Config]().NumField() {
		var c api.Config
		v := reflect.ValueOf(&c).Elem().Field(i)
		for n := range 3 {
			v.Set(reflect.MakeSlice(v.Type(), n, n))
			agrees(t, c)
			compares(t, c, api.Config{})
		}
	}
}

// R3

// copied returns a copy of a value that shares no slice with it. The copies of slices have as much spare capacity.
func copied(v reflect.Value) reflect.Value {
	out := reflect.New(v.Type()).Elem()
	switch v.Kind() {
	case reflect.Slice:
		if v.IsNil() {
			return out
		}
		whole := v.Slice(0, v.Cap())
		out.Set(reflect.MakeSlice(v.Type(), v.Cap(), v.Cap()))
		for i := range v.Cap() {
			out.Index(i).Set(copied(whole.Index(i)))
		}
		out.Set(out.Slice(0, v.Len()))
	case reflect.Struct:
		for i := range v.NumField() {
			out.Field(i).Set(copied(v.Field(i)))
		}
	default:
		out.Set(v)
	}
	return out
}

// extended returns a value whose slices have spare capacity with something in it.
func extended(r *rand.Rand, v reflect.Value) reflect.Value {
	out := reflect.New(v.Type()).Elem()
	switch v.Kind() {
	case reflect.Slice:
		if v.IsNil() {
			return out
		}
		out.Set(reflect.MakeSlice(v.Type(), v.Len()+3, v.Len()+3))
		for i := range v.Len() {
			out.Index(i).Set(extended(r, v.Index(i)))
		}
		for i := v.Len(); i < out.Len(); i++ {
			anyValue(r, out.Index(i))
		}
		out.Set(out.Slice(0, v.Len()))
	case reflect.Struct:
		for i := range v.NumField() {
			out.Field(i).Set(extended(r, v.Field(i)))
		}
	default:
		out.Set(v)
	}
	return out
}

// unchanged reports whether two values are equal, with the spare capacity of slices, and with nil being no empty slice.
func unchanged(a, b reflect.Value) bool {
	switch a.Kind() {
	case reflect.Slice:
		if a.IsNil() != b.IsNil() || a.Len() != b.Len() || a.Cap() != b.Cap() {
			return false
		}
		a, b = a.Slice(0, a.Cap()), b.Slice(0, b.Cap())
		for i := range a.Len() {
			if !unchanged(a.Index(i), b.Index(i)) {
				return false
			}
		}
		return true
	case reflect.Struct:
		for i := range a.NumField() {
			if !unchanged(a.Field(i), b.Field(i)) {
				return false
			}
		}
		return true
	default:
		return a.Equal(b)
	}
}

// TestArguments checks that no function changes its arguments, or their spare capacity.
func TestArguments(t *testing.T) {
	r := rand.New(rand.NewSource(114))
	for i := range 300 {
		c := someConfig(r)
		if i == 0 {
			c = fullConfig()
		}
		v := extended(r, reflect.ValueOf(c))
		w := extended(r, reflect.ValueOf(c))
		c, d := v.Interface().(api.Config), w.Interface().(api.Config)
		before, other := copied(v), copied(w)
		printed(t, c)
		if !format.Same(c, d) {
			t.Error("copies differ")
		}
		if !unchanged(v, before) || !unchanged(w, other) {
			t.Errorf("%v was changed to %v, or %v to %v", before, v, other, w)
		}
		l := extended(r, reflect.ValueOf(some(r, 20, someIns)))
		code := copied(l)
		agreesCode(t, l.Interface().([]api.Ins))
		if !unchanged(l, code) {
			t.Errorf("%v was changed to %v", code, l)
		}
	}
}

// where returns where a text lies.
func where(text string) (from, to uintptr) {
	from = uintptr(unsafe.Pointer(unsafe.StringData(text)))
	return from, from + uintptr(len(text))
}

// apart reports whether two texts share no memory.
func apart(a, b string) bool {
	from, to := where(a)
	otherFrom, otherTo := where(b)
	return to <= otherFrom || otherTo <= from
}

// TestMemory checks that results share no memory with arguments, nor with other results.
func TestMemory(t *testing.T) {
	r := rand.New(rand.NewSource(115))
	for range 300 {
		c := someConfig(r)
		l := atLeastOne(r, 20, someIns)
		first, second := printed(t, c), printed(t, c)
		code, _ := format.Code(l)
		again, _ := format.Code(l)
		all := []string{first, second, code, again}
		leaves(&c, func(path string, v reflect.Value) {
			if v.Kind() == reflect.String {
				all = append(all, v.String())
			}
		})
		for i := range 4 {
			for j, text := range all {
				if i != j && all[i] != "" && !apart(all[i], text) {
					t.Errorf("%q and %q share memory", all[i], text)
				}
			}
		}
	}
}

// R4

// TestRepeated compares results of many calls at the same time with those of the same calls one after the other.
func TestRepeated(t *testing.T) {
	r := rand.New(rand.NewSource(116))
	configs := []api.Config{fullConfig(), linked(fullConfig(), 1<<16)}
	codes := [][]api.Ins{nil, lengthy(1 << 17)}
	for range 100 {
		c := someConfig(r)
		change(r, &c, r.Intn(3))
		configs = append(configs, c)
		codes = append(codes, some(r, 9, someIns))
	}
	run := func() string {
		var out strings.Builder
		for i, c := range configs {
			src, e := format.Config(c)
			fmt.Fprint(&out, src, e, format.Valid(c), format.Same(c, configs[0]), format.Same(c, configs[i/2]))
			src, e = format.Code(codes[i])
			fmt.Fprint(&out, src, e)
		}
		return out.String()
	}
	want := run()
	var group sync.WaitGroup
	for range 4 {
		group.Go(func() {
			if run() != want {
				t.Error("results differ")
			}
		})
	}
	group.Wait()
}
