package parse_test

import (
	"fmt"
	"math/rand"
	"reflect"
	"slices"
	"strings"
	"sync"
	"testing"
	"unsafe"

	"nacelle/api"
	"nacelle/lex"
	"nacelle/parse"
)

// P8.3

// someTokens returns the texts of tokens, most of which are almost a configuration, or almost code.
func someTokens(r *rand.Rand) []string {
	phrase := pick(r, "configuration", "configuration", "code")
	return changed(r, sentence(r, strings.Fields(grammar[phrase])))
}

// index returns the index of the token that begins at an offset, or the number of tokens at the end of a source.
func index(t *testing.T, src string, at int) int {
	t.Helper()
	tokens, _, _ := lex.Lex(src)
	if at == len(src) {
		return len(tokens)
	}
	i := slices.IndexFunc(tokens, func(token lex.Token) bool { return token.At == at })
	if i < 0 {
		t.Errorf("%q: no token at %d", src, at)
	}
	return i
}

// TestSeparated puts other blanks and comments between the same tokens.
func TestSeparated(t *testing.T) {
	r := rand.New(rand.NewSource(91))
	for range 5000 {
		l := someTokens(r)
		plain := strings.Join(l, " ")
		other := separated(r, l)
		config, at, e := parse.Parse(plain)
		otherConfig, otherAt, otherError := parse.Parse(other)
		if e != otherError || !same(config, otherConfig) || e != api.OK && index(t, plain, at) != index(t, other, otherAt) {
			t.Errorf("%q: %v at %d, error %d; %v at %d, error %d", other, config, at, e, otherConfig, otherAt, otherError)
		}
		code, at, e := parse.Code(plain)
		otherCode, otherAt, otherError := parse.Code(other)
		if e != otherError || !slices.Equal(code, otherCode) || e != api.OK && index(t, plain, at) != index(t, other, otherAt) {
			t.Errorf("%q: %v at %d, error %d; %v at %d, error %d", other, code, at, e, otherCode, otherAt, otherError)
		}
	}
}

// TestFollowed parses a source that is followed by another one, which may end with an error.
func TestFollowed(t *testing.T) {
	r := rand.New(rand.NewSource(92))
	for range 3000 {
		c, d := someConfig(r), someConfig(r)
		first := separated(r, source(r, c)) + "\n"
		l := source(r, d)
		if got, want := parsed(t, first+separated(r, l)), joined(c, d); !same(got, want) {
			t.Errorf("%v, but not %v", got, want)
		}
		second := separated(r, changed(r, l))
		if _, at, e := parse.Parse(second); e != api.OK {
			refused(t, first+second, outcome{len(first) + at, e})
		}
		code, more := some(r, 9, someIns), some(r, 9, someIns)
		if got := coded(t, codeText(code)+" "+codeText(more)); !slices.Equal(got, append(code, more...)) {
			t.Errorf("%v, but not %v and %v", got, code, more)
		}
	}
}

// joined returns the items of two configurations.
func joined(c, d api.Config) api.Config {
	return api.Config{
		Modules:  slices.Concat(c.Modules, d.Modules),
		Channels: slices.Concat(c.Channels, d.Channels),
		Switches: slices.Concat(c.Switches, d.Switches),
		Links:    slices.Concat(c.Links, d.Links),
		VLs:      slices.Concat(c.VLs, d.VLs),
		Health:   slices.Concat(c.Health, d.Health),
		Causes:   slices.Concat(c.Causes, d.Causes),
		Versions: slices.Concat(c.Versions, d.Versions),
	}
}

// TestMeaning has sources that layer 10 rejects: nothing limits names, numbers and their counts here.
func TestMeaning(t *testing.T) {
	c := parsed(t, strings.Repeat("module m mem 1073741824 frame 0 { part p period 0 length 9 mem 9 { in i sampling size 0 refresh 0; in i queuing size 9999 depth 0; } part p period 0 length 0 mem 0 { } } ", 50)+
		"channel x.x.x to x.x.x, x.x.x; link a a net b slow 0; on power part p level process do halt; works m 1 with m 1; cause u needs u:1000 unless u;")
	if len(c.Modules) != 50 || len(c.Channels) != 1 || len(c.Links) != 1 || len(c.Health) != 1 || len(c.Versions) != 1 || len(c.Causes) != 1 {
		t.Error(c)
	}
	if l := coded(t, strings.Repeat("set 99 99999; send 77 88 99; jump 1000;", 100)); len(l) != 300 {
		t.Error(len(l))
	}
	numbers := strings.Repeat("7, ", 5000) + "7;"
	if p := partOf(t, "semas "+numbers+"bufs "+numbers); len(p.Semas) != 5001 || len(p.Bufs) != 5001 {
		t.Error(len(p.Semas), len(p.Bufs))
	}
}

// TestFull has sources of 2^16 bytes, of one kind of item each.
func TestFull(t *testing.T) {
	for _, unit := range []string{
		"works a 1 with b 1;", "on power level module do halt;", "module m mem 1 frame 1 { } ", "channel a.b.c to d.e.f;",
		"switch s net a delay 1 store 1;", "link a b net b slow 1;", "vl v from a.b.c bag 1 max 1 to d.e.f;", "cause u needs x:1;",
	} {
		n := 1 << 16 / len(unit)
		src := strings.Repeat(unit, n)
		c := parsed(t, src+strings.Repeat(" ", 1<<16-len(src)))
		if got := len(c.Modules) + len(c.Channels) + len(c.Switches) + len(c.Links) + len(c.VLs) + len(c.Health) + len(c.Causes) + len(c.Versions); got != n {
			t.Errorf("%q: %d items, but not %d", unit, got, n)
		}
	}
	n := 1 << 16 / len("next;")
	if l := coded(t, strings.Repeat("next;", n)); len(l) != n {
		t.Error(len(l))
	}
}

// R1, R2, R7

// TestArbitrary gives arbitrary sources to Parse and Code: none panics, and with an error there is no other result.
func TestArbitrary(t *testing.T) {
	r := rand.New(rand.NewSource(93))
	for range 20000 {
		l := make([]byte, r.Intn(60))
		r.Read(l)
		agrees(t, string(l))
	}
	for _, n := range []int{1<<16 - 1, 1 << 16, 1<<16 + 1, 1 << 20} {
		l := make([]byte, n)
		r.Read(l)
		src := string(l)
		if n <= 1<<16 {
			agrees(t, src)
		} else {
			refused(t, src, outcome{0, api.ErrLong})
			refusedCode(t, src, outcome{0, api.ErrLong})
		}
	}
	for i := range 256 {
		agrees(t, string([]byte{byte(i)}))
		agrees(t, long+string([]byte{byte(i)}))
	}
}

// R3

// memory is an interval of addresses.
type memory struct {
	from, to uintptr
	what     string
}

// memories returns where the slices of a value lie, with their spare capacity, and its texts of more than one byte. There is one text for each byte in a program.
func memories(v reflect.Value) []memory {
	var l []memory
	switch v.Kind() {
	case reflect.Slice:
		if v.Cap() > 0 {
			from := v.Pointer()
			l = append(l, memory{from, from + uintptr(v.Cap())*v.Type().Elem().Size(), fmt.Sprint(v)})
		}
		for i := range v.Len() {
			l = append(l, memories(v.Index(i))...)
		}
	case reflect.Struct:
		for i := range v.NumField() {
			l = append(l, memories(v.Field(i))...)
		}
	case reflect.String:
		if text := v.String(); len(text) > 1 {
			l = append(l, whereText(text))
		}
	}
	return l
}

func whereText(text string) memory {
	from := uintptr(unsafe.Pointer(unsafe.StringData(text)))
	return memory{from, from + uintptr(len(text)), text}
}

// TestMemory checks that no two parts of results lie in the same memory, nor one of them in the source.
func TestMemory(t *testing.T) {
	r := rand.New(rand.NewSource(94))
	for range 200 {
		src := separated(r, source(r, someConfig(r))) + long
		code := separated(r, strings.Fields(codeText(some(r, 30, someIns))))
		c, _, _ := parse.Parse(src)
		d, _, _ := parse.Parse(src)
		k, _, _ := parse.Code(code)
		n, _, _ := parse.Code(code)
		all := []memory{whereText(src), whereText(code)}
		for _, x := range []any{c, d, k, n} {
			all = append(all, memories(reflect.ValueOf(x))...)
		}
		slices.SortFunc(all, func(a, b memory) int {
			if a.from < b.from {
				return -1
			}
			return 1
		})
		for i := 1; i < len(all); i++ {
			if all[i].from < all[i-1].to {
				t.Errorf("%s and %s share memory", all[i-1].what, all[i].what)
			}
		}
	}
}

// TestResults checks that a changed result does not change another one.
func TestResults(t *testing.T) {
	first, second := parsed(t, long), parsed(t, long)
	clear(first.Modules[0].Parts[0].Ports)
	clear(first.Modules[0].Parts[0].Semas)
	clear(first.Modules[0].Parts)
	clear(first.Modules[:cap(first.Modules)])
	clear(first.VLs[0].To)
	clear(first.Health)
	if third := parsed(t, long); !same(second, longConfig()) || !same(third, longConfig()) {
		t.Error(second, third)
	}
}

// R4

// TestRepeated compares results of many calls at the same time with those of the same calls one after the other.
func TestRepeated(t *testing.T) {
	r := rand.New(rand.NewSource(95))
	sources := []string{long}
	for range 100 {
		sources = append(sources, separated(r, someTokens(r)))
	}
	run := func() string {
		var out strings.Builder
		for i, src := range sources {
			c, at, e := parse.Parse(src)
			fmt.Fprint(&out, c, at, e)
			l, at, e := parse.Code(src)
			fmt.Fprint(&out, l, at, e, parse.Word(uint8(i)), parse.Operands(uint8(i)), parse.Fault(uint8(i)), parse.Level(uint8(i)), parse.Action(uint8(i)))
		}
		return out.String()
	}
	want := run()
	var group sync.WaitGroup
	for range 4 {
		group.Go(func() {
			if run() != want {
				t.Error("results differ")
			}
		})
	}
	group.Wait()
}
