package format_test

import (
	"fmt"
	"math/rand"
	"reflect"
	"strings"
	"testing"

	"nacelle/api"
	"nacelle/format"
	"nacelle/parse"
)

// The signatures of the chapter.
var (
	_ func(api.Config) bool                = format.Valid
	_ func(api.Config) (string, api.Errno) = format.Config
	_ func([]api.Ins) (string, api.Errno)  = format.Code
	_ func(a, b api.Config) bool           = format.Same
)

// The words of the chapters, indexed by the constants of api.
var (
	instructions = [...]string{
		"", "work A", "set A B", "add A B", "sub A B", "load A B C", "store A B C", "send A B C", "recv A B C", "wait A", "signal A",
		"raise A", "lower A", "until A", "put A B", "get A B", "show A B", "look A B", "clear A", "next", "jump A", "zero A B", "less A B C",
		"div A B", "fault A", "stop",
	}
	faults  = [...]string{"", "deadline", "memory", "raised", "numeric", "stack", "power", "window"}
	levels  = [...]string{"", "process", "part", "module"}
	actions = [...]string{"", "ignore", "stop", "restart", "warm", "cold", "idle", "reset", "halt"}
)

// full has items of every kind, and every form of them.
const full = `module m mem 512 frame 100 {
	part p period 50 length 10 mem 64 {
		semas 1, 0;
		events 2;
		boards 1;
		bufs 4, 5, 6;
		out o sampling size 8 refresh 0;
		in i queuing size 9 depth 3;
		out x queuing size 1 depth 0;
		in y sampling size 4 refresh 6;
		proc a prio 3 period 50 limit 40 {
			work 7;
			set 0 5;
			less 0 1 3;
			next;
		}
		proc b prio 1 period 0 limit 2 {
		}
	}
	part q period 100 length 1 mem 0 {
	}
}
module n mem 0 frame 1 {
}
channel m.p.o to m.q.i, m.q.j;
channel m.q.o to m.p.y;
switch s net b delay 16 store 400;
switch t net a delay 0 store 1;
link m s net b slow 2;
link t n net a slow 1;
vl v from m.p.o bag 200 max 40 to n.q.i, n.q.j;
vl w from n.p.o bag 100 max 9 to m.q.i;
on power level module do halt;
on raised module m level part do cold;
on stack part p level process do stop;
on window module m part p level part do warm;
cause u needs x:1, y:2 unless z, w;
cause z needs x:3;
works m 2 with n 3;
works n 0 with m 1073741824;
`

func fullConfig() api.Config {
	ref := func(module, part, port string) api.Ref { return api.Ref{Module: module, Part: part, Port: port} }
	return api.Config{
		Modules: []api.Module{{
			Name: "m", Mem: 512, Frame: 100,
			Parts: []api.Part{{
				Name: "p", Period: 50, Length: 10, Mem: 64,
				Semas: []int{1, 0}, Events: 2, Boards: 1, Bufs: []int{4, 5, 6},
				Ports: []api.Port{
					{Name: "o", Kind: 1, Out: true, Size: 8}, {Name: "i", Kind: 2, Size: 9, Depth: 3},
					{Name: "x", Kind: 2, Out: true, Size: 1}, {Name: "y", Kind: 1, Size: 4, Refresh: 6},
				},
				Procs: []api.Proc{
					{Name: "a", Prio: 3, Period: 50, Limit: 40, Code: []api.Ins{{Op: 1, A: 7}, {Op: 2, B: 5}, {Op: 22, B: 1, C: 3}, {Op: 19}}},
					{Name: "b", Prio: 1, Limit: 2},
				},
			}, {
				Name: "q", Period: 100, Length: 1,
			}},
		}, {
			Name: "n", Frame: 1,
		}},
		Channels: []api.Channel{
			{From: ref("m", "p", "o"), To: []api.Ref{ref("m", "q", "i"), ref("m", "q", "j")}},
			{From: ref("m", "q", "o"), To: []api.Ref{ref("m", "p", "y")}},
		},
		Switches: []api.Switch{{Name: "s", Net: 1, Delay: 16, Store: 400}, {Name: "t", Store: 1}},
		Links:    []api.Link{{A: "m", B: "s", Net: 1, Slow: 2}, {A: "t", B: "n", Slow: 1}},
		VLs: []api.VL{
			{Name: "v", From: ref("m", "p", "o"), Bag: 200, Max: 40, To: []api.Ref{ref("n", "q", "i"), ref("n", "q", "j")}},
			{Name: "w", From: ref("n", "p", "o"), Bag: 100, Max: 9, To: []api.Ref{ref("m", "q", "i")}},
		},
		Health: []api.Health{
			{Fault: 6, Level: 3, Do: 8}, {Module: "m", Fault: 3, Level: 2, Do: 5},
			{Part: "p", Fault: 5, Level: 1, Do: 2}, {Module: "m", Part: "p", Fault: 7, Level: 2, Do: 4},
		},
		Causes: []api.Cause{
			{Unit: "u", Needs: []api.Report{{Unit: "x", Code: 1}, {Unit: "y", Code: 2}}, Unless: []string{"z", "w"}},
			{Unit: "z", Needs: []api.Report{{Unit: "x", Code: 3}}},
		},
		Versions: []api.Version{{A: "m", VA: 2, B: "n", VB: 3}, {A: "n", B: "m", VB: 1 << 30}},
	}
}

// form is the line of an item or a thing, as the chapter writes it: its words in capitals stand for something else.
func form(line string, stand ...any) string {
	for i := 0; i < len(stand); i += 2 {
		line = strings.ReplaceAll(line, stand[i].(string), fmt.Sprint(stand[i+1]))
	}
	return line + "\n"
}

// model is the source of a printable configuration, by the table of the chapter.
func model(c api.Config) string {
	var out string
	for _, x := range c.Modules {
		out += form("module NAME mem <MEM> frame <FRAME> {", "NAME", x.Name, "<MEM>", x.Mem, "<FRAME>", x.Frame) + texts(x.Parts, partModel) + "}\n"
	}
	for _, x := range c.Channels {
		out += form("channel <FROM> to <TO>;", "<TO>", commas(x.To, refModel), "<FROM>", refModel(x.From))
	}
	for _, x := range c.Switches {
		out += form("switch <NAME> net <NET> delay <DELAY> store <STORE>;", "<NAME>", x.Name, "<NET>", string("ab"[x.Net]), "<DELAY>", x.Delay, "<STORE>", x.Store)
	}
	for _, x := range c.Links {
		out += form("link <A> <B> net <NET> slow <SLOW>;", "<A>", x.A, "<B>", x.B, "<NET>", string("ab"[x.Net]), "<SLOW>", x.Slow)
	}
	for _, x := range c.VLs {
		out += form("vl <NAME> from <FROM> bag <BAG> max <MAX> to <TO>;", "<NAME>", x.Name, "<FROM>", refModel(x.From), "<BAG>", x.Bag, "<MAX>", x.Max, "<TO>", commas(x.To, refModel))
	}
	for _, x := range c.Health {
		line := "on FAULT module <M> part <P> level LEVEL do ACTION;"
		if x.Module == "" {
			line = strings.Replace(line, " module <M>", "", 1)
		}
		if x.Part == "" {
			line = strings.Replace(line, " part <P>", "", 1)
		}
		out += form(line, "FAULT", faults[x.Fault], "LEVEL", levels[x.Level], "ACTION", actions[x.Do], "<M>", x.Module, "<P>", x.Part)
	}
	for _, x := range c.Causes {
		line := "cause <UNIT> needs <NEEDS> unless <UNLESS>;"
		if len(x.Unless) == 0 {
			line = strings.Replace(line, " unless <UNLESS>", "", 1)
		}
		needs := commas(x.Needs, func(x api.Report) string { return fmt.Sprintf("%s:%d", x.Unit, x.Code) })
		out += form(line, "<UNIT>", x.Unit, "<NEEDS>", needs, "<UNLESS>", strings.Join(x.Unless, ", "))
	}
	for _, x := range c.Versions {
		out += form("works <A> <VA> with <B> <VB>;", "<A>", x.A, "<VA>", x.VA, "<B>", x.B, "<VB>", x.VB)
	}
	return out
}

func partModel(x api.Part) string {
	decimal := func(n int) string { return fmt.Sprint(n) }
	out := form("\tpart <NAME> period <PERIOD> length <LENGTH> mem <MEM> {", "<NAME>", x.Name, "<PERIOD>", x.Period, "<LENGTH>", x.Length, "<MEM>", x.Mem)
	if len(x.Semas) > 0 {
		out += form("\t\tsemas L;", "L", commas(x.Semas, decimal))
	}
	if x.Events != 0 {
		out += form("\t\tevents N;", "N", x.Events)
	}
	if x.Boards != 0 {
		out += form("\t\tboards N;", "N", x.Boards)
	}
	if len(x.Bufs) > 0 {
		out += form("\t\tbufs L;", "L", commas(x.Bufs, decimal))
	}
	return out + texts(x.Ports, portModel) + texts(x.Procs, procModel) + "\t}\n"
}

func portModel(x api.Port) string {
	line := map[uint8]string{1: "\t\tin <NAME> sampling size <SIZE> refresh <REFRESH>;", 2: "\t\tin <NAME> queuing size <SIZE> depth <DEPTH>;"}[x.Kind]
	if x.Out {
		line = strings.Replace(line, "in", "out", 1)
	}
	return form(line, "<NAME>", x.Name, "<SIZE>", x.Size, "<REFRESH>", x.Refresh, "<DEPTH>", x.Depth)
}

func procModel(x api.Proc) string {
	return form("\t\tproc <NAME> prio <PRIO> period <PERIOD> limit <LIMIT> {", "<NAME>", x.Name, "<PRIO>", x.Prio, "<PERIOD>", x.Period, "<LIMIT>", x.Limit) +
		texts(x.Code, func(x api.Ins) string { return "\t\t\t" + insModel(x) + "\n" }) + "\t\t}\n"
}

func insModel(x api.Ins) string {
	return strings.TrimSuffix(form(instructions[x.Op]+";", "A", x.A, "B", x.B, "C", x.C), "\n")
}

func codeModel(l []api.Ins) string {
	return strings.TrimSpace(texts(l, func(x api.Ins) string { return insModel(x) + " " }))
}

func refModel(x api.Ref) string { return x.Module + "." + x.Part + "." + x.Port }

// texts returns the texts of elements, one after the other.
func texts[T any](l []T, text func(x T) string) string {
	var out strings.Builder
	for _, x := range l {
		out.WriteString(text(x))
	}
	return out.String()
}

// commas returns the texts of elements with commas between them.
func commas[T any](l []T, text func(x T) string) string {
	return strings.TrimSuffix(texts(l, func(x T) string { return text(x) + ", " }), ", ")
}

// printable reports whether a configuration, or a part of one, is printable.
func printable(x any) bool {
	v := reflect.ValueOf(x)
	for v.Kind() == reflect.Slice {
		for i := range v.Len() {
			if !printable(v.Index(i).Interface()) {
				return false
			}
		}
		return true
	}
	switch x := x.(type) {
	case int:
		return 0 <= x && x <= 1<<30
	case string:
		return word(x)
	case uint8, bool:
		return true
	case api.Port:
		return fields(x) && (x.Kind == 1 && x.Depth == 0 || x.Kind == 2 && x.Refresh == 0)
	case api.Ins:
		return fields(x) && insPrintable(x)
	case api.Switch:
		return fields(x) && x.Net <= 1
	case api.Link:
		return fields(x) && x.Net <= 1
	case api.Health:
		return (x.Module == "" || word(x.Module)) && (x.Part == "" || word(x.Part)) && 1 <= x.Fault && x.Fault <= 7 && 1 <= x.Level && x.Level <= 3 && 1 <= x.Do && x.Do <= 8
	case api.Channel:
		return fields(x) && len(x.To) > 0
	case api.VL:
		return fields(x) && len(x.To) > 0
	case api.Cause:
		return fields(x) && len(x.Needs) > 0
	default:
		return fields(x)
	}
}

// fields reports whether all fields of a struct are printable.
func fields(x any) bool {
	v := reflect.ValueOf(x)
	for i := range v.NumField() {
		if !printable(v.Field(i).Interface()) {
			return false
		}
	}
	return true
}

func insPrintable(x api.Ins) bool {
	if x.Op < 1 || x.Op > 25 {
		return false
	}
	for i, n := range []int{x.A, x.B, x.C} {
		if n != 0 && !strings.Contains(instructions[x.Op], string("ABC"[i])) {
			return false
		}
	}
	return true
}

// word reports whether a text is a word of layer 7.
func word(text string) bool {
	for i, c := range []byte(text) {
		letter := 'a' <= c && c <= 'z' || 'A' <= c && c <= 'Z'
		if !letter && (i == 0 || c != '_' && (c < '0' || c > '9')) {
			return false
		}
	}
	return 1 <= len(text) && len(text) <= 24
}

// same reports whether two values have equal parts, where a nil slice is equal to an empty one.
func same(a, b any) bool { return equal(reflect.ValueOf(a), reflect.ValueOf(b)) }

func equal(a, b reflect.Value) bool {
	switch a.Kind() {
	case reflect.Slice:
		if a.Len() != b.Len() {
			return false
		}
		for i := range a.Len() {
			if !equal(a.Index(i), b.Index(i)) {
				return false
			}
		}
		return true
	case reflect.Struct:
		for i := range a.NumField() {
			if !equal(a.Field(i), b.Field(i)) {
				return false
			}
		}
		return true
	default:
		return a.Equal(b)
	}
}

// agrees compares what the functions return for a configuration with the model.
func agrees(t *testing.T, c api.Config) {
	t.Helper()
	ok := printable(c)
	if got := format.Valid(c); got != ok {
		t.Errorf("%v: valid is %v", c, got)
	}
	got, e := format.Config(c)
	want, wanted := "", api.ErrArg
	if ok {
		want, wanted = limited(model(c))
	}
	if got != want || e != wanted {
		t.Errorf("%v: %q, error %d, but not %q, error %d", c, got, e, want, wanted)
	}
}

// agreesCode compares what Code returns with the model.
func agreesCode(t *testing.T, l []api.Ins) {
	t.Helper()
	want, wanted := "", api.ErrArg
	if printable(l) {
		want, wanted = limited(codeModel(l))
	}
	if got, e := format.Code(l); got != want || e != wanted {
		t.Errorf("%v: %q, error %d, but not %q, error %d", l, got, e, want, wanted)
	}
}

// limited returns a source and OK, unless it is too long.
func limited(src string) (string, api.Errno) {
	if len(src) > 1<<16 {
		return "", api.ErrLong
	}
	return src, api.OK
}

// printed returns the source of a printable configuration.
func printed(t *testing.T, c api.Config) string {
	t.Helper()
	src, e := format.Config(c)
	if e != api.OK || !format.Valid(c) {
		t.Errorf("%v: %q, error %d", c, src, e)
	}
	return src
}

// parsed returns the configuration of a source.
func parsed(t *testing.T, src string) api.Config {
	t.Helper()
	c, at, e := parse.Parse(src)
	if e != api.OK {
		t.Errorf("%q: at %d, error %d", src, at, e)
	}
	return c
}

// leaves calls visit with each number, text, boolean and slice of a configuration. It may be changed there, and is restored after that.
func leaves(c *api.Config, visit func(path string, v reflect.Value)) {
	below("Config", reflect.ValueOf(c).Elem(), visit)
}

func below(path string, v reflect.Value, visit func(path string, v reflect.Value)) {
	if v.Kind() == reflect.Struct {
		for i := range v.NumField() {
			below(path+"."+v.Type().Field(i).Name, v.Field(i), visit)
		}
		return
	}
	old := reflect.New(v.Type()).Elem()
	old.Set(v)
	visit(path, v)
	v.Set(old)
	if v.Kind() == reflect.Slice {
		for i := range v.Len() {
			below(fmt.Sprintf("%s[%d]", path, i), v.Index(i), visit)
		}
	}
}

// pick returns one of some things.
func pick[T any](r *rand.Rand, l ...T) T { return l[r.Intn(len(l))] }
