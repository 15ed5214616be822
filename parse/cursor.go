package parse

import (
	"strconv"

	"nacelle/api"
	"nacelle/lex"
)

// end is the text of the token that stands behind the last one of a source. No other token has this text.
const end = ""

// failure is the panic with which parsing ends at a token that is not allowed.
type failure struct {
	at int
	e  api.Errno
}

// cursor is a place in the tokens of a source. It never moves past the end, since no kind, word or sign is that of the end.
type cursor struct {
	tokens []lex.Token
	next   int
}

// peek returns the token at the cursor.
func (c *cursor) peek() lex.Token { return c.tokens[c.next] }

// is reports whether the token at the cursor has a text.
func (c *cursor) is(text string) bool { return c.peek().Text == text }

// fail ends parsing at the cursor.
func (c *cursor) fail(e api.Errno) { panic(failure{c.peek().At, e}) }

// skip moves past the token at the cursor if it has a text, and reports whether it has.
func (c *cursor) skip(text string) bool {
	found := c.is(text)
	if found {
		c.next++
	}
	return found
}

// pass moves past the token at the cursor, which must have a text.
func (c *cursor) pass(text string) {
	if !c.skip(text) {
		c.fail(ErrSyntax)
	}
}

// take moves past the token at the cursor, which must have a kind, and returns its text.
func (c *cursor) take(kind lex.Kind) string {
	token := c.peek()
	if token.Kind != kind {
		c.fail(ErrSyntax)
	}
	c.next++
	return token.Text
}

// name moves past a name, and returns it.
func (c *cursor) name() string { return c.take(lex.Word) }

// number moves past a number, and returns it. Its error is left out, since lex has examined the number.
func (c *cursor) number() int {
	n, _ := strconv.Atoi(c.take(lex.Number))
	return n
}

// choice moves past one of the words of the numbers from 1 on, and returns its number.
func (c *cursor) choice(word func(n uint8) string) uint8 {
	n := uint8(1)
	for !c.skip(word(n)) {
		n++
		if word(n) == "" {
			c.fail(ErrSyntax)
		}
	}
	return n
}
