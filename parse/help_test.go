package parse_test

import (
	"fmt"
	"math/rand"
	"reflect"
	"slices"
	"strings"
	"testing"

	"nacelle/api"
	"nacelle/lex"
	"nacelle/parse"
)

// The signatures and the constants of the chapter.
var (
	_ func(string) (api.Config, int, api.Errno) = parse.Parse
	_ func(string) ([]api.Ins, int, api.Errno)  = parse.Code
	_ func(uint8) string                        = parse.Word
	_ func(uint8) string                        = parse.Operands
	_ func(uint8) string                        = parse.Fault
	_ func(uint8) string                        = parse.Level
	_ func(uint8) string                        = parse.Action
	_ [parse.ErrSyntax - api.Errno(80)]struct{} = [0]struct{}{}
	_ [parse.ErrTwice - api.Errno(81)]struct{}  = [0]struct{}{}
)

// The words of the chapter.
var (
	instructions = map[uint8][2]string{
		api.InsWork: {"work", "w"}, api.InsSet: {"set", "rv"}, api.InsAdd: {"add", "rr"}, api.InsSub: {"sub", "rr"}, api.InsDiv: {"div", "rr"},
		api.InsLoad: {"load", "rar"}, api.InsStore: {"store", "rar"}, api.InsSend: {"send", "orl"}, api.InsRecv: {"recv", "irr"},
		api.InsWait: {"wait", "s"}, api.InsSignal: {"signal", "s"}, api.InsRaise: {"raise", "e"}, api.InsLower: {"lower", "e"}, api.InsUntil: {"until", "e"},
		api.InsPut: {"put", "br"}, api.InsGet: {"get", "br"}, api.InsShow: {"show", "dr"}, api.InsLook: {"look", "dr"}, api.InsClear: {"clear", "d"},
		api.InsNext: {"next", ""}, api.InsJump: {"jump", "j"}, api.InsZero: {"zero", "rj"}, api.InsLess: {"less", "rrj"}, api.InsFault: {"fault", "c"}, api.InsStop: {"stop", ""},
	}
	faults = map[uint8]string{
		api.FaultDeadline: "deadline", api.FaultMemory: "memory", api.FaultRaised: "raised", api.FaultNumeric: "numeric",
		api.FaultStack: "stack", api.FaultPower: "power", api.FaultWindow: "window",
	}
	levels  = map[uint8]string{api.LevelProcess: "process", api.LevelPart: "part", api.LevelModule: "module"}
	actions = map[uint8]string{
		api.DoIgnore: "ignore", api.DoStop: "stop", api.DoRestart: "restart", api.DoWarm: "warm",
		api.DoCold: "cold", api.DoIdle: "idle", api.DoReset: "reset", api.DoHalt: "halt",
	}
)

// grammar is that of the chapter. Phrases are in angle brackets, since words of the same name stand for themselves; signs that are braces are in quotes.
var grammar = map[string]string{
	"configuration": `{ <item> }`,
	"item":          `<module> | <channel> | <switch> | <link> | <vl> | <health> | <cause> | <version>`,
	"module":        `module NAME mem NUM frame NUM "{" { <part> } "}"`,
	"part":          `part NAME period NUM length NUM mem NUM "{" { <thing> } "}"`,
	"thing":         `semas <numbers> ; | bufs <numbers> ; | events NUM ; | boards NUM ; | <port> | <proc>`,
	"numbers":       `NUM { , NUM }`,
	"port":          `<direction> NAME <kind> ;`,
	"direction":     `in | out`,
	"kind":          `sampling size NUM refresh NUM | queuing size NUM depth NUM`,
	"proc":          `proc NAME prio NUM period NUM limit NUM "{" <code> "}"`,
	"code":          `{ <instruction> ; }`,
	"channel":       `channel <ref> to <refs> ;`,
	"switch":        `switch NAME net <network> delay NUM store NUM ;`,
	"link":          `link NAME NAME net <network> slow NUM ;`,
	"vl":            `vl NAME from <ref> bag NUM max NUM to <refs> ;`,
	"refs":          `<ref> { , <ref> }`,
	"ref":           `NAME . NAME . NAME`,
	"network":       `a | b`,
	"health":        `on <fault> [ module NAME ] [ part NAME ] level <level> do <action> ;`,
	"cause":         `cause NAME needs <report> { , <report> } [ unless NAME { , NAME } ] ;`,
	"report":        `NAME : NUM`,
	"version":       `works NAME NUM with NAME NUM ;`,
	"instruction":   instructionForms(),
	"fault":         choices(faults),
	"level":         choices(levels),
	"action":        choices(actions),
}

func instructionForms() string {
	var l []string
	for _, x := range instructions {
		l = append(l, x[0]+strings.Repeat(" NUM", len(x[1])))
	}
	slices.Sort(l)
	return strings.Join(l, " | ")
}

func choices(words map[uint8]string) string {
	var l []string
	for _, word := range words {
		l = append(l, word)
	}
	slices.Sort(l)
	return strings.Join(l, " | ")
}

// outcome is the place and the error of a source.
type outcome struct {
	at int
	e  api.Errno
}

func (o outcome) String() string { return fmt.Sprintf("at %d, error %d", o.at, o.e) }

// reader matches tokens with the grammar in all possible ways.
type reader struct {
	tokens []lex.Token
	far    int               // the last token that was tried in vain
	part   int               // the token at which the partition begins
	first  map[[2]string]int // for the beginning of a partition and a word: the token of the thing with that word
	twice  int               // the first token of a second thing, or -1
}

// model is what Parse returns for a source of a phrase, without the result.
func model(src, phrase string) outcome {
	tokens, at, e := lex.Lex(src)
	if e != api.OK {
		return outcome{at, e}
	}
	r := reader{tokens: tokens, first: map[[2]string]int{}, twice: -1}
	ends := r.phrase(phrase, 0)
	switch {
	case r.twice >= 0:
		return outcome{tokens[r.twice].At, 81}
	case slices.Contains(ends, len(tokens)):
		return outcome{}
	case r.far == len(tokens):
		return outcome{len(src), 80}
	default:
		return outcome{tokens[r.far].At, 80}
	}
}

// phrase returns where the phrase can end if it begins at a token.
func (r *reader) phrase(name string, at int) []int {
	if name == "part" {
		r.part = at
	}
	if name == "thing" && at < len(r.tokens) && slices.Contains([]string{"semas", "bufs", "events", "boards"}, r.tokens[at].Text) {
		key := [2]string{fmt.Sprint(r.part), r.tokens[at].Text}
		if first, ok := r.first[key]; !ok {
			r.first[key] = at
		} else if first != at && (r.twice < 0 || at < r.twice) {
			r.twice = at
		}
	}
	return r.form(strings.Fields(grammar[name]), at)
}

// form returns where one of the alternatives of a form can end.
func (r *reader) form(form []string, at int) []int {
	var ends []int
	for _, alternative := range split(form) {
		ends = append(ends, r.sequence(alternative, []int{at})...)
	}
	return ends
}

// split splits a form at the bars that are not enclosed.
func split(form []string) [][]string {
	l := [][]string{nil}
	depth := 0
	for _, x := range form {
		switch {
		case x == "|" && depth == 0:
			l = append(l, nil)
			continue
		case x == "{" || x == "[":
			depth++
		case x == "}" || x == "]":
			depth--
		}
		l[len(l)-1] = append(l[len(l)-1], x)
	}
	return l
}

// sequence returns where a sequence can end if it begins at one of some tokens.
func (r *reader) sequence(l []string, ats []int) []int {
	if len(l) == 0 || len(ats) == 0 {
		return ats
	}
	n := 1
	var ends []int
	switch {
	case l[0] == "{" || l[0] == "[":
		n = closing(l) + 1
		ends = append(ends, ats...)
		for len(ats) > 0 {
			var more []int
			for _, at := range ats {
				more = append(more, r.form(l[1:n-1], at)...)
			}
			ends = append(ends, more...)
			ats = more
			if l[0] == "[" {
				break
			}
		}
	case strings.HasPrefix(l[0], "<"):
		for _, at := range ats {
			ends = append(ends, r.phrase(strings.Trim(l[0], "<>"), at)...)
		}
	default:
		for _, at := range ats {
			if r.is(strings.Trim(l[0], `"`), at) {
				ends = append(ends, at+1)
			} else {
				r.far = max(r.far, at)
			}
		}
	}
	return r.sequence(l[n:], ends)
}

// closing returns the index of the brace or bracket that ends what begins with the first one.
func closing(l []string) int {
	depth := 0
	for i, x := range l {
		switch x {
		case "{", "[":
			depth++
		case "}", "]":
			depth--
		}
		if depth == 0 {
			return i
		}
	}
	panic(l)
}

// is reports whether the token with an index is a word or sign, or of a kind.
func (r *reader) is(what string, at int) bool {
	switch {
	case at == len(r.tokens):
		return false
	case what == "NAME":
		return r.tokens[at].Kind == lex.Word
	case what == "NUM":
		return r.tokens[at].Kind == lex.Number
	default:
		return r.tokens[at].Text == what
	}
}

// pick returns one of some texts.
func pick(r *rand.Rand, l ...string) string { return l[r.Intn(len(l))] }

// vocabulary is the words of the grammar, and some other words.
var vocabulary = func() []string {
	l := strings.Fields("x y2 z_ Module WORK m1 longest_name_of_24_bytes")
	for _, form := range grammar {
		for _, x := range strings.Fields(form) {
			if 'a' <= x[0] && x[0] <= 'z' {
				l = append(l, x)
			}
		}
	}
	slices.Sort(l)
	return slices.Compact(l)
}()

// someName returns any name; words of the grammar may be names.
func someName(r *rand.Rand) string { return pick(r, vocabulary...) }

// someNumber returns any number.
func someNumber(r *rand.Rand) int {
	if r.Intn(9) == 0 {
		return 1 << 30
	}
	return r.Intn(1<<30) >> r.Intn(31)
}

// sentence returns the texts of tokens that a form allows.
func sentence(r *rand.Rand, form []string) []string {
	var out []string
	alternatives := split(form)
	l := alternatives[r.Intn(len(alternatives))]
	for i := 0; i < len(l); i++ {
		switch {
		case l[i] == "{" || l[i] == "[":
			n := closing(l[i:])
			most := 4
			if l[i] == "[" {
				most = 2
			}
			for range r.Intn(most) {
				out = append(out, sentence(r, l[i+1:i+n])...)
			}
			i += n
		case strings.HasPrefix(l[i], "<"):
			out = append(out, sentence(r, strings.Fields(grammar[strings.Trim(l[i], "<>")]))...)
		case l[i] == "NAME":
			out = append(out, someName(r))
		case l[i] == "NUM":
			out = append(out, fmt.Sprint(someNumber(r)))
		default:
			out = append(out, strings.Trim(l[i], `"`))
		}
	}
	return out
}

// someToken returns the text of any token.
func someToken(r *rand.Rand) string {
	return pick(r, someName(r), someName(r), fmt.Sprint(someNumber(r)), "{", "}", ";", ",", ".", ":")
}

// changed returns texts of tokens with up to two changes.
func changed(r *rand.Rand, l []string) []string {
	l = slices.Clone(l)
	for range r.Intn(3) {
		if len(l) == 0 {
			return l
		}
		at := r.Intn(len(l))
		switch r.Intn(6) {
		case 0:
			l = slices.Delete(l, at, at+1)
		case 1:
			l = slices.Insert(l, at, someToken(r))
		case 2:
			l[at] = someToken(r)
		case 3:
			l = l[:at]
		case 4:
			l = slices.Insert(l, at, l[at])
		case 5:
			other := r.Intn(len(l))
			l[at], l[other] = l[other], l[at]
		}
	}
	return l
}

// separator returns blanks and comments; it begins and ends with a blank.
func separator(r *rand.Rand) string {
	if r.Intn(2) > 0 {
		return " "
	}
	text := pick(r, " ", "\t", "\n", "\r")
	for range r.Intn(3) {
		text += pick(r, " ", "\t", "\n", "\r\n", "#\n", "# module ? 007 } \x00 \xFF\r#\n")
	}
	return text + pick(r, " ", "\t", "\n")
}

// separated returns a source of tokens.
func separated(r *rand.Rand, l []string) string {
	var src strings.Builder
	for _, text := range l {
		src.WriteString(separator(r))
		src.WriteString(text)
	}
	return src.String() + separator(r) + pick(r, "", "", "#", "# }")
}

// same reports whether two values have equal parts, where a nil slice is equal to an empty one.
func same(a, b any) bool { return equal(reflect.ValueOf(a), reflect.ValueOf(b)) }

func equal(a, b reflect.Value) bool {
	switch a.Kind() {
	case reflect.Slice:
		if a.Len() != b.Len() {
			return false
		}
		for i := range a.Len() {
			if !equal(a.Index(i), b.Index(i)) {
				return false
			}
		}
		return true
	case reflect.Struct:
		for i := range a.NumField() {
			if !equal(a.Field(i), b.Field(i)) {
				return false
			}
		}
		return true
	default:
		return a.Equal(b)
	}
}

// parsed returns what a source that is a configuration is parsed to.
func parsed(t *testing.T, src string) api.Config {
	t.Helper()
	c, at, e := parse.Parse(src)
	if e != api.OK || at != 0 {
		t.Errorf("%q: at %d, error %d", src, at, e)
	}
	return c
}

// coded returns what a source that is code is parsed to.
func coded(t *testing.T, src string) []api.Ins {
	t.Helper()
	l, at, e := parse.Code(src)
	if e != api.OK || at != 0 {
		t.Errorf("%q: at %d, error %d", src, at, e)
	}
	return l
}

// refused reports an error if Parse does not return the place and the error, and nothing else.
func refused(t *testing.T, src string, want outcome) {
	t.Helper()
	c, at, e := parse.Parse(src)
	if got := (outcome{at, e}); got != want || !reflect.ValueOf(c).IsZero() {
		t.Errorf("%q: %v with %v, but not %v", src, got, c, want)
	}
}

// refusedCode is the same for Code.
func refusedCode(t *testing.T, src string, want outcome) {
	t.Helper()
	l, at, e := parse.Code(src)
	if got := (outcome{at, e}); got != want || l != nil {
		t.Errorf("%q: %v with %v, but not %v", src, got, l, want)
	}
}

// agrees compares Parse and Code with the model, and returns the outcome of Parse.
func agrees(t *testing.T, src string) outcome {
	t.Helper()
	want := model(src, "configuration")
	if want.e != api.OK {
		refused(t, src, want)
	} else {
		parsed(t, src)
	}
	if code := model(src, "code"); code.e != api.OK {
		refusedCode(t, src, code)
	} else {
		coded(t, src)
	}
	return want
}
