package lex_test

import (
	"fmt"
	"math"
	"math/rand"
	"strings"
	"testing"

	"nacelle/api"
	"nacelle/lex"
)

// P7.1

// compare compares Lex with the model.
func compare(t *testing.T, src string) {
	t.Helper()
	if got, want := lexed(src), model(src); got != want {
		t.Errorf("%q: %v, but not %v", src, got, want)
	}
}

func TestTokens(t *testing.T) {
	for _, c := range []struct{ src, want string }{
		{"", ""},
		{"vl v1 bag 200; # two", `1 0 "vl"; 1 3 "v1"; 1 6 "bag"; 2 10 "200"; 3 13 ";"; `},
		{"a{b}c;d,e.f:g", `1 0 "a"; 3 1 "{"; 1 2 "b"; 3 3 "}"; 1 4 "c"; 3 5 ";"; 1 6 "d"; 3 7 ","; 1 8 "e"; 3 9 "."; 1 10 "f"; 3 11 ":"; 1 12 "g"; `},
		{"1{2}3;4,5.6:7", `2 0 "1"; 3 1 "{"; 2 2 "2"; 3 3 "}"; 2 4 "3"; 3 5 ";"; 2 6 "4"; 3 7 ","; 2 8 "5"; 3 9 "."; 2 10 "6"; 3 11 ":"; 2 12 "7"; `},
		{"..,,", `3 0 "."; 3 1 "."; 3 2 ","; 3 3 ","; `},
		{"0 0", `2 0 "0"; 2 2 "0"; `},
		{"0;0", `2 0 "0"; 3 1 ";"; 2 2 "0"; `},
		{"0.0", `2 0 "0"; 3 1 "."; 2 2 "0"; `},
		{"9 10 100 1073741823 1073741824", `2 0 "9"; 2 2 "10"; 2 5 "100"; 2 9 "1073741823"; 2 20 "1073741824"; `},
		{"x_1 x__ X0y a0000001 z99999999999", `1 0 "x_1"; 1 4 "x__"; 1 8 "X0y"; 1 12 "a0000001"; 1 21 "z99999999999"; `},
	} {
		if got, want := lexed(c.src), (outcome{c.want, 0, api.OK}); got != want {
			t.Errorf("%q: %v, but not %v", c.src, got, want)
		}
	}
}

func TestBlanks(t *testing.T) {
	for _, c := range []struct{ src, want string }{
		{" ", ""},
		{" \t\n\r", ""},
		{"\r\r\n\n\t\t", ""},
		{"#", ""},
		{"# ? 007 _ \x00 \xFF", ""},
		{"#\n#", ""},
		{"##", ""},
		{"#\n", ""},
		{"a b\tc\nd\re", `1 0 "a"; 1 2 "b"; 1 4 "c"; 1 6 "d"; 1 8 "e"; `},
		{"\n\n a", `1 3 "a"; `},
		{"a \n", `1 0 "a"; `},
		{"a#b\nc", `1 0 "a"; 1 4 "c"; `},
		{"1#2\n3", `2 0 "1"; 2 4 "3"; `},
		{";#;\n;", `3 0 ";"; 3 4 ";"; `},
		{"a#b\rc\nd", `1 0 "a"; 1 6 "d"; `},
		{"a#b\n#c\n \n#d\ne", `1 0 "a"; 1 12 "e"; `},
		{"a#b#\nc", `1 0 "a"; 1 5 "c"; `},
		{"#a\n#b", ""},
		{"a #", `1 0 "a"; `},
	} {
		if got, want := lexed(c.src), (outcome{c.want, 0, api.OK}); got != want {
			t.Errorf("%q: %v, but not %v", c.src, got, want)
		}
	}
}

func TestInvalid(t *testing.T) {
	word25, word26 := strings.Repeat("x", 25), strings.Repeat("Y_", 13)
	for _, c := range []struct {
		src string
		at  int
		e   api.Errno
	}{
		{"a _b", 2, lex.ErrByte},
		{"_", 0, lex.ErrByte},
		{"; _", 2, lex.ErrByte},
		{"a-b", 1, lex.ErrByte},
		{"12-", 2, lex.ErrByte},
		{"-12", 0, lex.ErrByte},
		{"a\x00", 1, lex.ErrByte},
		{"é", 0, lex.ErrByte},
		{"aé", 1, lex.ErrByte},
		{"a é", 2, lex.ErrByte},
		{"a\u00A0b", 1, lex.ErrByte},
		{"a\x0Bb", 1, lex.ErrByte},
		{"a\x0Cb", 1, lex.ErrByte},
		{"# c\n?", 4, lex.ErrByte},
		{"\xEF\xBB\xBFa", 0, lex.ErrByte},
		{word25, 0, lex.ErrWord},
		{"{" + word25, 1, lex.ErrWord},
		{"a " + word26 + " b", 2, lex.ErrWord},
		{"7 007", 2, lex.ErrNumber},
		{"x 2b", 2, lex.ErrNumber},
		{"00", 0, lex.ErrNumber},
		{"01", 0, lex.ErrNumber},
		{"0a", 0, lex.ErrNumber},
		{"0_", 0, lex.ErrNumber},
		{"0x10", 0, lex.ErrNumber},
		{"1e9", 0, lex.ErrNumber},
		{"1_000", 0, lex.ErrNumber},
		{"9Z", 0, lex.ErrNumber},
		{"1073741825", 0, lex.ErrNumber},
		{"2000000000", 0, lex.ErrNumber},
		{"4294967295", 0, lex.ErrNumber},
		{"4294967296", 0, lex.ErrNumber},
		{"18446744073709551615", 0, lex.ErrNumber},
		{"18446744073709551616", 0, lex.ErrNumber},
		{"18446744073709551617", 0, lex.ErrNumber},
		{"01073741824", 0, lex.ErrNumber},
		{"1" + strings.Repeat("0", 999), 0, lex.ErrNumber},
		{strings.Repeat("0", 1000), 0, lex.ErrNumber},
		{"1 2 3x; 4", 4, lex.ErrNumber},

		// Of several errors, the one that comes first in the source.
		{"? " + word25 + " 00", 0, lex.ErrByte},
		{"? 00 " + word25, 0, lex.ErrByte},
		{word25 + "? 00", 0, lex.ErrWord},
		{word25 + " 00 ?", 0, lex.ErrWord},
		{"00? " + word25, 0, lex.ErrNumber},
		{"a 01 ?", 2, lex.ErrNumber},
		{"00 " + word25 + " ?", 0, lex.ErrNumber},
		{"??", 0, lex.ErrByte},
		{"ok ; 5 1x 2x", 7, lex.ErrNumber},
	} {
		if got, want := lexed(c.src), (outcome{"", c.at, c.e}); got != want {
			t.Errorf("%q: %v, but not %v", c.src, got, want)
		}
	}
}

// TestEachByte has sources of one byte, and sources in which a byte follows or precedes another one.
func TestEachByte(t *testing.T) {
	kinds := map[string]lex.Kind{}
	for _, c := range strings.Split("abcdefghijklmnopqrstuvwxyzABCDEFGHIJKLMNOPQRSTUVWXYZ", "") {
		kinds[c] = lex.Word
	}
	for _, c := range strings.Split("0123456789", "") {
		kinds[c] = lex.Number
	}
	for _, c := range strings.Split("{};,.:", "") {
		kinds[c] = lex.Sign
	}
	for v := range 256 {
		src := string([]byte{byte(v)})
		want := outcome{"", 0, lex.ErrByte}
		if kind := kinds[src]; kind != 0 {
			want = outcome{fmt.Sprintf("%d 0 %q; ", kind, src), 0, api.OK}
		} else if strings.Contains(" \t\n\r#", src) {
			want = outcome{}
		}
		if got := lexed(src); got != want {
			t.Errorf("%q: %v, but not %v", src, got, want)
		}
	}
	for v := range 1 << 16 {
		compare(t, string([]byte{byte(v), byte(v >> 8)}))
	}
}

// TestShort has all short sources of bytes that matter.
func TestShort(t *testing.T) {
	const bytes = "aZ_019{.# \n?"
	var all func(src string, n int)
	all = func(src string, n int) {
		compare(t, src)
		for i := 0; i < len(bytes) && n > 0; i++ {
			all(src+bytes[i:i+1], n-1)
		}
	}
	all("", 4)
}

func TestSources(t *testing.T) {
	r := rand.New(rand.NewSource(81))
	valid := 0
	for _, src := range sources(r, 20000) {
		compare(t, src)
		if _, _, e := lex.Lex(src); e == api.OK {
			valid++
		}
	}
	if valid < 1000 {
		t.Error(valid)
	}
	for range 5000 {
		compare(t, someBytes(r, r.Intn(30)))
	}
}

// TestWords has words of all lengths around MaxName; letters, digits and underscores count alike.
func TestWords(t *testing.T) {
	for n := 1; n < 60; n++ {
		for _, text := range []string{strings.Repeat("x", n), "a" + strings.Repeat("_", n-1), "Z" + strings.Repeat("9", n-1)} {
			want := outcome{fmt.Sprintf("1 2 %q; ", text), 0, api.OK}
			if n > 24 {
				want = outcome{"", 2, lex.ErrWord}
			}
			if got := lexed("\n\n" + text + " "); got != want {
				t.Errorf("%q: %v, but not %v", text, got, want)
			}
		}
	}
}

// TestNumbers has numbers around powers, and around those that an int cannot hold.
func TestNumbers(t *testing.T) {
	for i := range 65 {
		for d := range uint64(5) {
			compare(t, fmt.Sprint(uint64(1)<<i-2+d))
		}
	}
	power := "1"
	for range 40 {
		for _, text := range []string{power, strings.Repeat("9", len(power)), power[:len(power)-1] + "1"} {
			compare(t, text)
			compare(t, "0"+text)
			compare(t, text+"_")
			compare(t, text+"0a")
		}
		power += "0"
	}
	r := rand.New(rand.NewSource(82))
	for range 2000 {
		compare(t, fmt.Sprint(1<<30-1000+r.Intn(2000)))
		compare(t, fmt.Sprint(r.Uint64()>>r.Intn(64)))
	}
}

// TestSize has sources of about MaxSource bytes, valid and invalid ones.
func TestSize(t *testing.T) {
	long := outcome{"", 0, api.ErrLong}
	for _, part := range []string{" ", "\n", "#", "a", "1", ";", "a ", "0\n", "?", "ab,12 # c\n"} {
		for _, n := range []int{1<<16 - 1, 1 << 16, 1<<16 + 1, 1 << 17} {
			src := strings.Repeat(part, n/len(part)+1)[:n]
			want := long
			if n <= 1<<16 {
				want = model(src)
			}
			if got := lexed(src); got != want {
				t.Errorf("%d of %q: at %d, error %d, but not at %d, error %d", n, part, got.at, got.e, want.at, want.e)
			}
		}
	}
	if l, at, e := lex.Lex(strings.Repeat("{", 1<<16)); len(l) != 1<<16 || at != 0 || e != api.OK {
		t.Error(len(l), at, e)
	}
	if got := lexed(strings.Repeat(" ", 1<<16-1) + "?"); got != (outcome{"", 1<<16 - 1, lex.ErrByte}) {
		t.Error(got)
	}
	if got := lexed("?" + strings.Repeat(" ", 1<<16)); got != long {
		t.Error(got)
	}
	if got := lexed(strings.Repeat("x", 1<<20)); got != long {
		t.Error(got)
	}
}

// TestNoTokens: with an error there are no tokens, not even the valid ones before it.
func TestNoTokens(t *testing.T) {
	for _, src := range []string{"a b ?", "a b 00", "a b " + strings.Repeat("c", 25), strings.Repeat("a ", 1<<16)} {
		if l, _, e := lex.Lex(src); l != nil || e == api.OK {
			t.Error(src[:5], l, e)
		}
	}
}

// P7.2

// texts returns tokens with the given texts, and other fields of any kind.
func texts(l ...string) []lex.Token {
	var out []lex.Token
	for i, text := range l {
		out = append(out, lex.Token{Kind: lex.Kind(i * 77), Text: text, At: i*i - 5})
	}
	return out
}

func TestJoin(t *testing.T) {
	for _, c := range []struct {
		l    []string
		want string
	}{
		{nil, ""},
		{[]string{""}, ""},
		{[]string{"a"}, "a"},
		{[]string{"a", "b"}, "a b"},
		{[]string{"", ""}, " "},
		{[]string{"", "", ""}, "  "},
		{[]string{"", "a"}, " a"},
		{[]string{"a", ""}, "a "},
		{[]string{"x y", "", "z"}, "x y  z"},
		{[]string{"vl", "v1", "bag", "200", ";"}, "vl v1 bag 200 ;"},
		{[]string{" ", "\n", "#", "\x00\xFF"}, "  \n # \x00\xFF"},
		{[]string{"{", "}", ";", ",", ".", ":"}, "{ } ; , . :"},
	} {
		if got := lex.Join(texts(c.l...)...); got != c.want {
			t.Errorf("%q: %q, but not %q", c.l, got, c.want)
		}
	}
}

func TestJoinAny(t *testing.T) {
	r := rand.New(rand.NewSource(83))
	for range 3000 {
		var l []string
		for range r.Intn(20) {
			l = append(l, pick(r, "", " ", validText(r), invalidText(r), someBytes(r, r.Intn(5))))
		}
		if got, want := lex.Join(texts(l...)...), strings.Join(l, " "); got != want {
			t.Errorf("%q: %q, but not %q", l, got, want)
		}
	}
	var l []string
	for i := range 1 << 16 {
		l = append(l, strings.Repeat("x", i%30))
	}
	if lex.Join(texts(l...)...) != strings.Join(l, " ") {
		t.Error("many tokens")
	}
}

func TestPlace(t *testing.T) {
	for _, c := range []struct {
		src              string
		at, line, column int
	}{
		{"ab\ncd\ne", 5, 2, 3},
		{"ab\ncd\ne", 6, 3, 1},
		{"ab\ncd\ne", 0, 1, 1},
		{"ab\ncd\ne", 1, 1, 2},
		{"ab\ncd\ne", 2, 1, 3},
		{"ab\ncd\ne", 3, 2, 1},
		{"ab\ncd\ne", 7, 3, 2},
		{"ab\ncd\ne", 8, 3, 2},
		{"ab\ncd\ne", math.MaxInt, 3, 2},
		{"ab\ncd\ne", -1, 1, 1},
		{"ab\ncd\ne", math.MinInt, 1, 1},
		{"", 0, 1, 1},
		{"", 1, 1, 1},
		{"", -1, 1, 1},
		{"\n", 0, 1, 1},
		{"\n", 1, 2, 1},
		{"\n", 2, 2, 1},
		{"\n\n", 1, 2, 1},
		{"\n\n", 2, 3, 1},
		{"a\r\nb", 2, 1, 3},
		{"a\r\nb", 3, 2, 1},
		{"\r\r", 2, 1, 3},
		{"#\na", 2, 2, 1},
		{"\tx", 1, 1, 2},
		{"é\x00", 2, 1, 3},
	} {
		if line, column := lex.Place(c.src, c.at); line != c.line || column != c.column {
			t.Errorf("%q %d: %d %d, but not %d %d", c.src, c.at, line, column, c.line, c.column)
		}
	}
}

// TestPlaceAny asks for every offset of sources, and for some outside.
func TestPlaceAny(t *testing.T) {
	check := func(src string, at int) {
		line, column := lex.Place(src, at)
		if wantLine, wantColumn := place(src, at); line != wantLine || column != wantColumn {
			t.Errorf("%q %d: %d %d, but not %d %d", src, at, line, column, wantLine, wantColumn)
		}
	}
	r := rand.New(rand.NewSource(84))
	for i, src := range sources(r, 300) {
		if i%2 == 0 {
			src += someBytes(r, r.Intn(9)) + strings.Repeat("\n", r.Intn(3))
		}
		for at := -3; at < len(src)+4; at++ {
			check(src, at)
		}
		for _, at := range []int{math.MinInt, math.MinInt32, math.MaxInt32, math.MaxInt} {
			check(src, at)
		}
	}
	// Place has no limit of its own: a source may be longer than what Lex takes.
	long := strings.Repeat("abc\n", 1<<16)
	for _, at := range []int{1 << 16, 1<<18 - 1, 1 << 18, 1<<18 + 1} {
		check(long, at)
		check(long[:1<<18-1], at)
	}
}
