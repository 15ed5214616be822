package lex_test

import (
	"math/rand"
	"slices"
	"strings"
	"sync"
	"testing"
	"unsafe"

	"nacelle/api"
	"nacelle/lex"
)

// P7.3

// TestJoined lexes what Join returns.
func TestJoined(t *testing.T) {
	r := rand.New(rand.NewSource(91))
	for _, src := range sources(r, 5000) {
		l, _, e := lex.Lex(src)
		if e != api.OK {
			continue
		}
		again, at, e := lex.Lex(lex.Join(l...))
		if e != api.OK || at != 0 || !slices.Equal(withoutPlaces(again), withoutPlaces(l)) {
			t.Errorf("%q: %s, but not %s", src, shown(again), shown(l))
		}
		at = 0
		for i, token := range again {
			if token.At != at {
				t.Errorf("%q: token %d at %d, but not %d", src, i, token.At, at)
			}
			at += len(token.Text) + 1
		}
	}
}

// TestJoinedLong: the texts of a source can be too long with the spaces between them; P7.1 applies.
func TestJoinedLong(t *testing.T) {
	for _, n := range []int{1 << 15, 1<<15 + 1, 1 << 16} {
		l, _, _ := lex.Lex(strings.Repeat(";", n))
		joined := lex.Join(l...)
		again, at, e := lex.Lex(joined)
		if len(joined) != 2*n-1 || at != 0 {
			t.Error(n, len(joined), at)
		}
		if n == 1<<15 && (e != api.OK || len(again) != n) || n > 1<<15 && (e != api.ErrLong || again != nil) {
			t.Error(n, len(again), e)
		}
	}
}

// TestSeparated puts other blanks and comments between the same tokens, in sources that are valid or become invalid at their last token.
func TestSeparated(t *testing.T) {
	r := rand.New(rand.NewSource(92))
	for range 5000 {
		var l []string
		for range r.Intn(10) {
			l = append(l, validText(r))
		}
		invalid := r.Intn(3) == 0
		if invalid {
			l = append(l, invalidText(r))
		}
		plain := strings.Join(l, " ")
		want, _, wantError := lex.Lex(plain)
		src, last := "", 0
		for _, text := range l {
			src += separator(r)
			last = len(src)
			src += text
		}
		src += separator(r) + pick(r, "", "#", "# the end \xFF")
		got, at, e := lex.Lex(src)
		if e != wantError || invalid != (e != api.OK) || invalid && at != last || !slices.Equal(withoutPlaces(got), withoutPlaces(want)) {
			t.Errorf("%q: %s at %d, error %d", src, shown(got), at, e)
		}
		for _, token := range got {
			if src[token.At:token.At+len(token.Text)] != token.Text {
				t.Errorf("%q: %v", src, token)
			}
		}
	}
}

// TestCovered: what is left of a source without its tokens is blanks and comments.
func TestCovered(t *testing.T) {
	for _, src := range sources(rand.New(rand.NewSource(93)), 3000) {
		l, _, e := lex.Lex(src)
		if e != api.OK {
			continue
		}
		end := 0
		for _, token := range append(l, lex.Token{At: len(src)}) {
			if token.At < end {
				t.Fatalf("%q: %v begins before %d", src, token, end)
			}
			between := src[end:token.At]
			if none, _, e := lex.Lex(between); len(none) > 0 || e != api.OK || separatorForm.FindString(between) != between {
				t.Errorf("%q: %q between tokens", src, between)
			}
			end = token.At + len(token.Text)
		}
	}
}

// R1, R2, R7

// TestArbitrary gives arbitrary arguments to every function: none panics, and with an error there are no tokens.
func TestArbitrary(t *testing.T) {
	r := rand.New(rand.NewSource(94))
	for range 20000 {
		src := someBytes(r, r.Intn(60))
		l, at, e := lex.Lex(src)
		if e != api.OK && (len(l) > 0 || at >= len(src)) || e == api.OK && at != 0 {
			t.Errorf("%q: %s at %d, error %d", src, shown(l), at, e)
		}
		line, column := lex.Place(src, int(r.Uint64()>>r.Intn(64)))
		if line < 1 || column < 1 {
			t.Errorf("%q: %d %d", src, line, column)
		}
		joined := lex.Join(lex.Token{Kind: lex.Kind(r.Intn(256)), Text: src, At: int(r.Uint64())}, lex.Token{})
		if joined != src+" " {
			t.Errorf("%q: %q", src, joined)
		}
	}
	for _, n := range []int{1<<16 - 1, 1 << 16, 1<<16 + 1, 1 << 20} {
		lex.Lex(someBytes(r, n))
	}
}

// R3

// TestArguments checks that nothing is written to the tokens that are passed, or behind them.
func TestArguments(t *testing.T) {
	all := texts("a", "bb", "ccc", "dddd", "eeeee")
	kept := slices.Clone(all)
	for n := range len(all) + 1 {
		lex.Join(all[:n]...)
		if !slices.Equal(all, kept) {
			t.Error(n, all)
		}
	}
}

// TestResults checks that one result does not change another one.
func TestResults(t *testing.T) {
	const src = "module m mem 8 frame 50 { }"
	first, _, _ := lex.Lex(src)
	second, _, _ := lex.Lex(src)
	first = first[:cap(first)]
	for i := range first {
		first[i] = lex.Token{Kind: 9, Text: "changed", At: -1}
	}
	third, _, _ := lex.Lex(src)
	if want := model(src).tokens; shown(second) != want || shown(third) != want {
		t.Error(shown(second), shown(third))
	}
}

// TestMemory checks that the texts are not parts of the source, and that a joined text is not that of a token. Texts of one byte are left out: there is one for each byte in a program.
func TestMemory(t *testing.T) {
	src := "module main mem 1000"
	l, _, _ := lex.Lex(src)
	for _, token := range l {
		if unsafe.StringData(token.Text) == unsafe.StringData(src[token.At:]) {
			t.Error(token, "lies in the source")
		}
		if unsafe.StringData(lex.Join(token)) == unsafe.StringData(token.Text) {
			t.Error(token, "lies in the result")
		}
	}
}

// R4

// TestRepeated compares results of many calls at the same time with those of the same calls one after the other.
func TestRepeated(t *testing.T) {
	all := sources(rand.New(rand.NewSource(95)), 100)
	run := func() []any {
		var out []any
		for i, src := range all {
			l, _, _ := lex.Lex(src)
			line, column := lex.Place(src, i)
			out = append(out, lexed(src), lex.Join(l...), line, column)
		}
		return out
	}
	want := run()
	var group sync.WaitGroup
	for range 4 {
		group.Go(func() {
			if !slices.Equal(run(), want) {
				t.Error("results differ")
			}
		})
	}
	group.Wait()
}

// R5

// TestEmpty: lists without tokens are alike, whether or not they are nil.
func TestEmpty(t *testing.T) {
	for _, l := range [][]lex.Token{nil, {}, make([]lex.Token, 0, 9), texts("a")[:0]} {
		if got := lex.Join(l...); got != "" {
			t.Errorf("%q", got)
		}
	}
}
