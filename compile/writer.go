package compile

import (
	"slices"

	"seedbed/api"
	"seedbed/instr"
)

// noSlot stands where an instruction names no slot.
const noSlot = -1

// writer writes the instructions and the guards of a function.
type writer struct {
	code   []api.Instr
	guards []api.Guard
	forms  instr.Forms
	dead   bool // nothing leads to the place that is next, so that nothing is written
}

func (w *writer) here() int { return len(w.code) }

func (w *writer) emit(in api.Instr) {
	if w.dead {
		return
	}
	w.code = append(w.code, in)
	w.dead = w.forms[in.Op].Ends
}

func (w *writer) constant(slot int, v api.Value) {
	w.emit(api.Instr{Op: api.IConst, A: slot, V: v})
}

// move puts the value of a slot into another one, if it is not there already; there may be neither.
func (w *writer) move(to, from int) {
	if to != from {
		w.emit(api.Instr{Op: api.IMove, A: to, B: from})
	}
}

// ask asks for something that needs nothing but the values of slots. Each ask has a list of its own.
func (w *writer) ask(kind int, slots ...int) {
	w.emit(api.Instr{Op: api.IAsk, A: noSlot, B: kind, L: slices.Clone(slots)})
}

// raise raises the fault that is in a pair of slots.
func (w *writer) raise(pair int) { w.emit(api.Instr{Op: api.IRaise, A: pair}) }

// guard leads a raise at a place from one to before another here; false: there can be none.
func (w *writer) guard(from, to, pair int) bool {
	if !w.forms.CanRaise(w.code, from, to) {
		return false
	}
	w.guards = append(w.guards, api.Guard{From: from, To: to, At: w.here(), Slot: pair})
	w.dead = false
	return true
}

// label is a place to which instructions lead, also before it is known.
type label struct {
	at     int
	placed bool
	fills  []func(at int) // what waits for it
}

func (l *label) fill(set func(at int)) {
	if l.placed {
		set(l.at)
		return
	}
	l.fills = append(l.fills, set)
}

// place makes a label the place that is next.
func (w *writer) place(l *label) {
	l.at, l.placed = w.here(), true
	for _, set := range l.fills {
		w.dead = false
		set(l.at)
	}
}

func (w *writer) jump(to *label) {
	if w.dead {
		return
	}
	at := w.here()
	w.emit(api.Instr{Op: api.IJump})
	to.fill(func(place int) { w.code[at].A = place })
}

// branch writes an IFalse or an IFault.
func (w *writer) branch(op, slot int, to *label) {
	if w.dead {
		return
	}
	at := w.here()
	w.emit(api.Instr{Op: op, A: slot})
	to.fill(func(place int) { w.code[at].B = place })
}

// choose leads to one of several labels, by the number in a slot.
func (w *writer) choose(slot int, to []*label) {
	if w.dead {
		return
	}
	if len(to) == 1 {
		w.jump(to[0])
		return
	}
	at := w.here()
	w.emit(api.Instr{Op: api.ISwitch, A: slot, L: make([]int, len(to))})
	for i, l := range to {
		l.fill(func(place int) { w.code[at].L[i] = place })
	}
}

// slots are those of a function: they are handed out like those of a stack.
type slots struct{ next, most int }

func (s *slots) take() int {
	s.next++
	s.most = max(s.most, s.next)
	return s.next - 1
}
