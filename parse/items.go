package parse

import "nacelle/api"

// items returns what parses an item with a first word.
func items() map[string]func(p *parser) {
	return map[string]func(p *parser){
		"module":  (*parser).addModule,
		"channel": (*parser).addChannel,
		"switch":  (*parser).addSwitch,
		"link":    (*parser).addLink,
		"vl":      (*parser).addVL,
		"on":      (*parser).addHealth,
		"cause":   (*parser).addCause,
		"works":   (*parser).addVersion,
	}
}

// configuration parses all items.
func (p *parser) configuration() api.Config {
	for !p.is(end) {
		p.dispatch(p.items)
	}
	return p.config
}

func (p *parser) addModule() {
	x := api.Module{Name: p.after("module").name(), Mem: p.after("mem").number(), Frame: p.after("frame").number()}
	x.Parts = block(p, (*parser).partition)
	p.config.Modules = append(p.config.Modules, x)
}

func (p *parser) addChannel() {
	x := api.Channel{From: p.after("channel").ref(), To: p.after("to").refs()}
	p.pass(";")
	p.config.Channels = append(p.config.Channels, x)
}

func (p *parser) addSwitch() {
	x := api.Switch{Name: p.after("switch").name(), Net: p.after("net").network()}
	x.Delay, x.Store = p.after("delay").number(), p.after("store").number()
	p.pass(";")
	p.config.Switches = append(p.config.Switches, x)
}

func (p *parser) addLink() {
	x := api.Link{A: p.after("link").name(), B: p.name(), Net: p.after("net").network(), Slow: p.after("slow").number()}
	p.pass(";")
	p.config.Links = append(p.config.Links, x)
}

func (p *parser) addVL() {
	x := api.VL{Name: p.after("vl").name(), From: p.after("from").ref()}
	x.Bag, x.Max = p.after("bag").number(), p.after("max").number()
	x.To = p.after("to").refs()
	p.pass(";")
	p.config.VLs = append(p.config.VLs, x)
}

func (p *parser) addHealth() {
	x := api.Health{Fault: p.after("on").choice(Fault)}
	if p.skip("module") {
		x.Module = p.name()
	}
	if p.skip("part") {
		x.Part = p.name()
	}
	x.Level, x.Do = p.after("level").choice(Level), p.after("do").choice(Action)
	p.pass(";")
	p.config.Health = append(p.config.Health, x)
}

func (p *parser) addCause() {
	x := api.Cause{Unit: p.after("cause").name()}
	x.Needs = list(p.after("needs"), (*parser).report)
	if p.skip("unless") {
		x.Unless = list(p, (*parser).name)
	}
	p.pass(";")
	p.config.Causes = append(p.config.Causes, x)
}

func (p *parser) addVersion() {
	x := api.Version{A: p.after("works").name(), VA: p.number(), B: p.after("with").name(), VB: p.number()}
	p.pass(";")
	p.config.Versions = append(p.config.Versions, x)
}

// network parses the name of a network.
func (p *parser) network() int {
	if p.skip("b") {
		return 1
	}
	p.pass("a")
	return 0
}

// ref parses a reference.
func (p *parser) ref() api.Ref {
	return api.Ref{Module: p.name(), Part: p.after(".").name(), Port: p.after(".").name()}
}

// refs parses references.
func (p *parser) refs() []api.Ref { return list(p, (*parser).ref) }

// report parses a report of a cause.
func (p *parser) report() api.Report {
	return api.Report{Unit: p.name(), Code: p.after(":").number()}
}
