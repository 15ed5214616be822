package format

import (
	"nacelle/api"
	"nacelle/parse"
)

// part prints a partition with its things.
func (p *printer) part(x api.Part) {
	p.open("part", p.name(x.Name), "period", p.number(x.Period), "length", p.number(x.Length), "mem", p.number(x.Mem))
	p.numbers("semas", x.Semas)
	p.count("events", x.Events)
	p.count("boards", x.Boards)
	p.numbers("bufs", x.Bufs)
	list(p, "", x.Ports, p.port)
	list(p, "", x.Procs, p.proc)
	p.shut()
}

// numbers prints numbers after a word, if there are any.
func (p *printer) numbers(word string, l []int) {
	if len(l) == 0 {
		return
	}
	p.begin(word)
	list(p, ",", l, func(n int) { p.add(" ", p.number(n)) })
	p.end()
}

// count prints a number after a word, unless it is 0.
func (p *printer) count(word string, n int) {
	if n != 0 {
		p.line(word, p.number(n))
	}
}

// port prints a port.
func (p *printer) port(x api.Port) {
	direction := "in"
	if x.Out {
		direction = "out"
	}
	switch x.Kind {
	case api.PortSampling:
		p.require(x.Depth == 0)
		p.line(direction, p.name(x.Name), "sampling", "size", p.number(x.Size), "refresh", p.number(x.Refresh))
	case api.PortQueuing:
		p.require(x.Refresh == 0)
		p.line(direction, p.name(x.Name), "queuing", "size", p.number(x.Size), "depth", p.number(x.Depth))
	default:
		p.require(false)
	}
}

// proc prints a process with its code.
func (p *printer) proc(x api.Proc) {
	p.open("proc", p.name(x.Name), "prio", p.number(x.Prio), "period", p.number(x.Period), "limit", p.number(x.Limit))
	list(p, "", x.Code, func(x api.Ins) {
		p.begin()
		p.instruction(x)
		p.add("\n")
	})
	p.shut()
}

// instruction prints an instruction. What is not an operand is not printed, and must be 0.
func (p *printer) instruction(x api.Ins) {
	p.add(p.known(parse.Word(x.Op)))
	for i, n := range [...]int{x.A, x.B, x.C} {
		if i < len(parse.Operands(x.Op)) {
			p.add(" ", p.number(n))
		} else {
			p.require(n == 0)
		}
	}
	p.add(";")
}
