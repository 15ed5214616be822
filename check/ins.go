package check

import (
	"nacelle/api"
	"nacelle/format"
	"nacelle/parse"
)

// Ins reports whether an instruction is valid.
func Ins(p api.Part, n int, x api.Ins) bool {
	if _, e := format.Code([]api.Ins{x}); e != api.OK {
		return false
	}
	allowed := ranges(p, n, x)
	numbers := [...]int{x.A, x.B, x.C}
	for i, letter := range []byte(parse.Operands(x.Op)) {
		if !allowed[letter](numbers[i]) {
			return false
		}
	}
	return true
}

// ranges returns what an operand of an instruction may be, by its letter. No operand is negative, since the instruction is printable.
func ranges(p api.Part, n int, x api.Ins) map[byte]func(v int) bool {
	return map[byte]func(v int) bool{
		'w': within(1, api.MaxFrames),
		'r': within(0, 3),
		'v': within(0, 255),
		'c': within(0, 255),
		'a': within(0, api.MaxMem-1),
		'o': func(v int) bool { return v < len(p.Ports) && p.Ports[v].Out },
		'i': func(v int) bool { return v < len(p.Ports) && !p.Ports[v].Out },
		's': func(v int) bool { return v < len(p.Semas) },
		'b': func(v int) bool { return v < len(p.Bufs) },
		'e': func(v int) bool { return v < p.Events },
		'd': func(v int) bool { return v < p.Boards },
		'j': func(v int) bool { return v < n },
		// The port was examined before: its letter precedes that of the length.
		'l': func(v int) bool { return within(1, p.Ports[x.A].Size)(v) },
	}
}

// within returns a function that reports whether a number is from lo to hi.
func within(lo, hi int) func(n int) bool {
	return func(n int) bool { return lo <= n && n <= hi }
}

// code reports whether all instructions are valid.
func (k *checker) code() bool {
	return all(k.Modules, func(m api.Module) bool {
		return all(m.Parts, func(p api.Part) bool {
			return all(p.Procs, func(x api.Proc) bool {
				return all(x.Code, func(i api.Ins) bool { return Ins(p, len(x.Code), i) })
			})
		})
	})
}
