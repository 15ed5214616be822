package lex_test

import (
	"fmt"
	"math/big"
	"math/rand"
	"regexp"
	"slices"
	"strings"

	"nacelle/api"
	"nacelle/lex"
)

// The signatures and the constants of the chapter.
var (
	_ func(string) ([]lex.Token, int, api.Errno)  = lex.Lex
	_ func(...lex.Token) string                   = lex.Join
	_ func(src string, at int) (line, column int) = lex.Place
	_                                             = token(lex.Token{})
	_ uint8                                       = uint8(lex.Kind(0))
	_ [lex.Word - lex.Kind(1)]struct{}            = [0]struct{}{}
	_ [lex.Number - lex.Kind(2)]struct{}          = [0]struct{}{}
	_ [lex.Sign - lex.Kind(3)]struct{}            = [0]struct{}{}
	_ [lex.ErrByte - api.Errno(70)]struct{}       = [0]struct{}{}
	_ [lex.ErrWord - api.Errno(71)]struct{}       = [0]struct{}{}
	_ [lex.ErrNumber - api.Errno(72)]struct{}     = [0]struct{}{}
)

// token has the fields of the chapter.
type token struct {
	Kind lex.Kind
	Text string
	At   int
}

// outcome is what Lex returns, with the tokens as a text.
type outcome struct {
	tokens string
	at     int
	e      api.Errno
}

func (o outcome) String() string { return fmt.Sprintf("%s at %d, error %d", o.tokens, o.at, o.e) }

// lexed calls Lex. Tokens together with an error are shown, since there may be none.
func lexed(src string) outcome {
	l, at, e := lex.Lex(src)
	return outcome{shown(l), at, e}
}

// shown returns tokens as a text: the kind, the offset and the text of each.
func shown(l []lex.Token) string {
	var b strings.Builder
	for _, t := range l {
		fmt.Fprintf(&b, "%d %d %q; ", t.Kind, t.At, t.Text)
	}
	return b.String()
}

// withoutPlaces returns tokens whose offsets are 0.
func withoutPlaces(l []lex.Token) []lex.Token {
	l = slices.Clone(l)
	for i := range l {
		l[i].At = 0
	}
	return l
}

// The forms of the chapter.
var (
	separatorForm = regexp.MustCompile(`^(?s:[ \t\n\r]|#[^\n]*(\n|$))+`)
	wordForm      = regexp.MustCompile(`^[a-zA-Z][a-zA-Z0-9_]*`)
	numberForm    = regexp.MustCompile(`^[0-9][a-zA-Z0-9_]*`)
	signForm      = regexp.MustCompile(`^[{};,.:]`)
	decimalForm   = regexp.MustCompile(`^(0|[1-9][0-9]*)$`)
)

// model is Lex by the forms of the chapter. The source need not be short.
func model(src string) outcome {
	var l []lex.Token
	for at := 0; at < len(src); {
		at += len(separatorForm.FindString(src[at:]))
		if at == len(src) {
			break
		}
		t, e := first(src[at:])
		if e != api.OK {
			return outcome{"", at, e}
		}
		t.At = at
		l = append(l, t)
		at += len(t.Text)
	}
	return outcome{shown(l), 0, api.OK}
}

// first returns the token with which src begins.
func first(src string) (lex.Token, api.Errno) {
	if text := wordForm.FindString(src); text != "" {
		if len(text) > 24 {
			return lex.Token{}, 71
		}
		return lex.Token{Kind: 1, Text: text}, api.OK
	}
	if text := numberForm.FindString(src); text != "" {
		value, ok := new(big.Int).SetString(text, 10)
		if !decimalForm.MatchString(text) || !ok || value.Cmp(big.NewInt(1<<30)) > 0 {
			return lex.Token{}, 72
		}
		return lex.Token{Kind: 2, Text: text}, api.OK
	}
	if text := signForm.FindString(src); text != "" {
		return lex.Token{Kind: 3, Text: text}, api.OK
	}
	return lex.Token{}, 70
}

// place is Place by the words of the chapter.
func place(src string, at int) (line, column int) {
	if at < 0 {
		at = 0
	}
	if at > len(src) {
		at = len(src)
	}
	return 1 + strings.Count(src[:at], "\n"), 1 + at - (1 + strings.LastIndex(src[:at], "\n"))
}

// someBytes returns n bytes.
func someBytes(r *rand.Rand, n int) string {
	l := make([]byte, n)
	r.Read(l)
	return string(l)
}

// pick returns one of some texts.
func pick(r *rand.Rand, l ...string) string { return l[r.Intn(len(l))] }

// validText returns the text of a valid token.
func validText(r *rand.Rand) string {
	const letters = "abcdefghijklmnopqrstuvwxyzABCDEFGHIJKLMNOPQRSTUVWXYZ"
	switch r.Intn(5) {
	case 0:
		text := pick(r, strings.Split(letters, "")...)
		for range r.Intn(24) {
			text += pick(r, strings.Split(letters+"0123456789_", "")...)
		}
		return text
	case 1:
		return fmt.Sprint(r.Intn(1<<30+1) >> r.Intn(31))
	case 2:
		return pick(r, "{", "}", ";", ",", ".", ":")
	default:
		return pick(r, "0", "1", "9", "1073741824", "1073741823", "a", "z", "A", "Z", "a_", "x0", strings.Repeat("m", 24), "module", "e9", "x__9")
	}
}

// invalidText returns what is no valid token.
func invalidText(r *rand.Rand) string {
	return pick(r, "00", "01", "007", "1a", "2_", "0x1", "1073741825", "9999999999", "18446744073709551616", strings.Repeat("a", 25), strings.Repeat("b_", 40), "?", "_", "-", "\x00", "\x0B", "\x0C", "\x7F", "\x80", "\xFF", "é", "\u00A0", "\"", "/", "@", "[", "`", "|", "~", "!", "<", "=")
}

// separator returns blanks and comments; it begins and ends with a blank.
func separator(r *rand.Rand) string {
	text := pick(r, " ", "\t", "\n", "\r")
	for range r.Intn(4) {
		text += pick(r, " ", "\t", "\n", "\r", "\r\n", "#\n", "##\n", "# a word 007 ? \x00 \xFF\r#\n", "#{};\n")
	}
	return text + pick(r, " ", "\t", "\n", "\r")
}

// sources are made of valid and invalid tokens, of separators, and of other bytes.
func sources(r *rand.Rand, n int) []string {
	l := []string{"", " ", "#", "\n", "a", "7", ";"}
	for range n {
		var text string
		for range r.Intn(12) {
			text += validText(r)
			if r.Intn(3) > 0 {
				text += separator(r)
			}
			switch r.Intn(40) {
			case 0:
				text += invalidText(r)
			case 1:
				text += someBytes(r, r.Intn(4))
			case 2:
				text += "#" + someBytes(r, r.Intn(9))
			}
		}
		l = append(l, text)
	}
	return l
}
