package parse

import "nacelle/api"

// form is the word of an instruction, and the letters of its operands.
type form struct{ word, letters string }

var forms = [...]form{
	api.InsWork:   {"work", "w"},
	api.InsSet:    {"set", "rv"},
	api.InsAdd:    {"add", "rr"},
	api.InsSub:    {"sub", "rr"},
	api.InsLoad:   {"load", "rar"},
	api.InsStore:  {"store", "rar"},
	api.InsSend:   {"send", "orl"},
	api.InsRecv:   {"recv", "irr"},
	api.InsWait:   {"wait", "s"},
	api.InsSignal: {"signal", "s"},
	api.InsRaise:  {"raise", "e"},
	api.InsLower:  {"lower", "e"},
	api.InsUntil:  {"until", "e"},
	api.InsPut:    {"put", "br"},
	api.InsGet:    {"get", "br"},
	api.InsShow:   {"show", "dr"},
	api.InsLook:   {"look", "dr"},
	api.InsClear:  {"clear", "d"},
	api.InsNext:   {"next", ""},
	api.InsJump:   {"jump", "j"},
	api.InsZero:   {"zero", "rj"},
	api.InsLess:   {"less", "rrj"},
	api.InsDiv:    {"div", "rr"},
	api.InsFault:  {"fault", "c"},
	api.InsStop:   {"stop", ""},
}

var faults = [...]string{
	api.FaultDeadline: "deadline",
	api.FaultMemory:   "memory",
	api.FaultRaised:   "raised",
	api.FaultNumeric:  "numeric",
	api.FaultStack:    "stack",
	api.FaultPower:    "power",
	api.FaultWindow:   "window",
}

var levels = [...]string{
	api.LevelProcess: "process",
	api.LevelPart:    "part",
	api.LevelModule:  "module",
}

var actions = [...]string{
	api.DoIgnore:  "ignore",
	api.DoStop:    "stop",
	api.DoRestart: "restart",
	api.DoWarm:    "warm",
	api.DoCold:    "cold",
	api.DoIdle:    "idle",
	api.DoReset:   "reset",
	api.DoHalt:    "halt",
}

// Word returns the word of an instruction.
func Word(op uint8) string {
	if int(op) >= len(forms) {
		return ""
	}
	return forms[op].word
}

// Operands returns the operand letters of an instruction.
func Operands(op uint8) string {
	if int(op) >= len(forms) {
		return ""
	}
	return forms[op].letters
}

// Fault returns the word of a fault.
func Fault(f uint8) string {
	if int(f) >= len(faults) {
		return ""
	}
	return faults[f]
}

// Level returns the word of a level.
func Level(l uint8) string {
	if int(l) >= len(levels) {
		return ""
	}
	return levels[l]
}

// Action returns the word of an action.
func Action(d uint8) string {
	if int(d) >= len(actions) {
		return ""
	}
	return actions[d]
}
