package format

import (
	"strings"

	"nacelle/api"
)

// buffer holds what was printed.
type buffer struct {
	text  []byte
	depth int  // tabs at the beginning of a line
	long  bool // there was more than fits
}

// add adds texts. Nothing is added after what does not fit, so that text never exceeds its limit.
func (b *buffer) add(texts ...string) {
	for _, text := range texts {
		b.long = b.long || len(b.text)+len(text) > api.MaxSource
		if !b.long {
			b.text = append(b.text, text...)
		}
	}
}

// begin begins a line with words.
func (b *buffer) begin(words ...string) {
	b.add(strings.Repeat("\t", b.depth), strings.Join(words, " "))
}

// end ends a line that is not that of a block.
func (b *buffer) end() { b.add(";\n") }

// line adds a line of words.
func (b *buffer) line(words ...string) {
	b.begin(words...)
	b.end()
}

// open begins a block: a line of words, and the lines up to the next shut.
func (b *buffer) open(words ...string) {
	b.begin(words...)
	b.add(" {\n")
	b.depth++
}

// shut ends a block.
func (b *buffer) shut() {
	b.depth--
	b.begin("}\n")
}
