package parse

import "nacelle/api"

// things returns what parses a thing of a partition with a first word.
func things() map[string]func(p *parser) {
	return map[string]func(p *parser){
		"semas":  (*parser).addSemas,
		"bufs":   (*parser).addBufs,
		"events": (*parser).addEvents,
		"boards": (*parser).addBoards,
		"in":     (*parser).addPort,
		"out":    (*parser).addPort,
		"proc":   (*parser).addProc,
	}
}

// partition parses a partition with its things.
func (p *parser) partition() api.Part {
	p.part = api.Part{Name: p.after("part").name(), Period: p.after("period").number(), Length: p.after("length").number()}
	p.part.Mem = p.after("mem").number()
	p.seen = map[string]bool{}
	p.pass("{")
	for !p.is("}") {
		p.dispatch(p.things)
	}
	p.pass("}")
	return p.part
}

func (p *parser) addSemas() {
	p.part.Semas = list(p.once("semas"), (*parser).number)
	p.pass(";")
}

func (p *parser) addBufs() {
	p.part.Bufs = list(p.once("bufs"), (*parser).number)
	p.pass(";")
}

func (p *parser) addEvents() {
	p.part.Events = p.once("events").number()
	p.pass(";")
}

func (p *parser) addBoards() {
	p.part.Boards = p.once("boards").number()
	p.pass(";")
}

func (p *parser) addPort() {
	x := api.Port{Out: p.skip("out")}
	if !x.Out {
		p.pass("in")
	}
	x.Name = p.name()
	if p.skip("sampling") {
		x.Kind, x.Size, x.Refresh = api.PortSampling, p.after("size").number(), p.after("refresh").number()
	} else {
		p.pass("queuing")
		x.Kind, x.Size, x.Depth = api.PortQueuing, p.after("size").number(), p.after("depth").number()
	}
	p.pass(";")
	p.part.Ports = append(p.part.Ports, x)
}

func (p *parser) addProc() {
	x := api.Proc{Name: p.after("proc").name(), Prio: p.after("prio").number(), Period: p.after("period").number()}
	x.Limit = p.after("limit").number()
	x.Code = block(p, (*parser).instruction)
	p.part.Procs = append(p.part.Procs, x)
}

// once moves past the first word of a thing that a partition may have once.
func (p *parser) once(word string) *parser {
	if p.seen[word] {
		p.fail(ErrTwice)
	}
	p.seen[word] = true
	return p.after(word)
}

// program parses a source that consists of code.
func (p *parser) program() []api.Ins { return until(p, end, (*parser).instruction) }

// instruction parses an instruction and its semicolon.
func (p *parser) instruction() api.Ins {
	op := p.choice(Word)
	var operands [3]int
	for i := range len(Operands(op)) {
		operands[i] = p.number()
	}
	p.pass(";")
	return api.Ins{Op: op, A: operands[0], B: operands[1], C: operands[2]}
}
