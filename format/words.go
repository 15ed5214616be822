package format

import (
	"strconv"

	"nacelle/api"
	"nacelle/lex"
)

// name returns a name, which must be a word of layer 7.
func (p *printer) name(text string) string {
	tokens, _, _ := lex.Lex(text)
	p.require(len(tokens) == 1 && tokens[0].Kind == lex.Word && tokens[0].Text == text)
	return text
}

// known returns the word of a constant. Only a constant that there is has one.
func (p *printer) known(word string) string {
	p.require(word != "")
	return word
}

// number returns the digits of a number, which must be a time.
func (p *printer) number(n int) string {
	p.require(0 <= n && n <= api.MaxTime)
	return strconv.Itoa(n)
}

// network returns the letter of a network.
func (p *printer) network(net int) string {
	switch net {
	case 0:
		return "a"
	case 1:
		return "b"
	}
	p.require(false)
	return ""
}

// ref returns the three names of a port.
func (p *printer) ref(x api.Ref) string {
	return p.name(x.Module) + "." + p.name(x.Part) + "." + p.name(x.Port)
}
