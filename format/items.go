package format

import (
	"nacelle/api"
	"nacelle/parse"
)

// modules prints modules with their partitions.
func (p *printer) modules(c api.Config) {
	list(p, "", c.Modules, func(x api.Module) {
		p.open("module", p.name(x.Name), "mem", p.number(x.Mem), "frame", p.number(x.Frame))
		list(p, "", x.Parts, p.part)
		p.shut()
	})
}

// channels prints channels.
func (p *printer) channels(c api.Config) {
	list(p, "", c.Channels, func(x api.Channel) {
		p.begin("channel", p.ref(x.From), "to")
		p.refs(x.To)
		p.end()
	})
}

// switches prints switches.
func (p *printer) switches(c api.Config) {
	list(p, "", c.Switches, func(x api.Switch) {
		p.line("switch", p.name(x.Name), "net", p.network(x.Net), "delay", p.number(x.Delay), "store", p.number(x.Store))
	})
}

// links prints links.
func (p *printer) links(c api.Config) {
	list(p, "", c.Links, func(x api.Link) {
		p.line("link", p.name(x.A), p.name(x.B), "net", p.network(x.Net), "slow", p.number(x.Slow))
	})
}

// vls prints virtual links.
func (p *printer) vls(c api.Config) {
	list(p, "", c.VLs, func(x api.VL) {
		p.begin("vl", p.name(x.Name), "from", p.ref(x.From), "bag", p.number(x.Bag), "max", p.number(x.Max), "to")
		p.refs(x.To)
		p.end()
	})
}

// health prints the rows of the health monitor.
func (p *printer) health(c api.Config) {
	list(p, "", c.Health, func(x api.Health) {
		words := []string{"on", p.known(parse.Fault(x.Fault))}
		if x.Module != "" {
			words = append(words, "module", p.name(x.Module))
		}
		if x.Part != "" {
			words = append(words, "part", p.name(x.Part))
		}
		p.line(append(words, "level", p.known(parse.Level(x.Level)), "do", p.known(parse.Action(x.Do)))...)
	})
}

// causes prints the rows of the maintenance table.
func (p *printer) causes(c api.Config) {
	list(p, "", c.Causes, func(x api.Cause) {
		p.require(len(x.Needs) > 0)
		p.begin("cause", p.name(x.Unit), "needs")
		list(p, ",", x.Needs, func(need api.Report) { p.add(" ", p.name(need.Unit), ":", p.number(need.Code)) })
		if len(x.Unless) > 0 {
			p.add(" unless")
			list(p, ",", x.Unless, func(unit string) { p.add(" ", p.name(unit)) })
		}
		p.end()
	})
}

// versions prints the rows of the compatibility matrix.
func (p *printer) versions(c api.Config) {
	list(p, "", c.Versions, func(x api.Version) {
		p.line("works", p.name(x.A), p.number(x.VA), "with", p.name(x.B), p.number(x.VB))
	})
}

// refs prints the ports that a channel or virtual link leads to.
func (p *printer) refs(l []api.Ref) {
	p.require(len(l) > 0)
	list(p, ",", l, func(to api.Ref) { p.add(" ", p.ref(to)) })
}
