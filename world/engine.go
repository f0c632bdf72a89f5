package world

import (
	"slices"

	"seedbed/api"
	"seedbed/direct"
	"seedbed/machine"
	"seedbed/shape"
)

// Engine is where coroutines come from.
type Engine struct {
	source source
}

// source makes the turns of the coroutines of tasks.
type source interface {
	// begin returns the first turn.
	begin(t *task) (api.Turn, api.Errno)
	// resume returns the turn after the last reply.
	resume(t *task) (api.Turn, api.Errno)
}

// Direct returns the engine of a program.
func Direct(p api.Program) *Engine {
	if shape.ButForSlots(p) != api.OK {
		// Layer 8 takes neither of them; and what is not well formed can contain itself.
		p = api.Program{}
	}
	return &Engine{program{shape.Clone(p)}}
}

// Compiled returns the engine of a code.
func Compiled(c api.Code) *Engine {
	funcs := slices.Clone(c.Funcs)
	for i, f := range funcs {
		f.Code, f.Guards = slices.Clone(f.Code), slices.Clone(f.Guards)
		for at := range f.Code {
			f.Code[at].L = slices.Clone(f.Code[at].L)
		}
		funcs[i] = f
	}
	return &Engine{compiled{api.Code{Funcs: funcs}}}
}

// next returns the next turn of a task, the first one if it has no reply yet.
func (e *Engine) next(t *task) api.Turn {
	turn, err := e.ask(t)
	switch err {
	case api.OK:
		return turn
	case api.ErrFuel:
		return api.Turn{Done: true, Fault: thrown("fuel")}
	}
	return api.Turn{Done: true, Fault: thrown("bad")}
}

func (e *Engine) ask(t *task) (api.Turn, api.Errno) {
	switch {
	case e.source == nil:
		return api.Turn{}, api.ErrArg
	case len(t.answers) == 0:
		return e.source.begin(t)
	}
	return e.source.resume(t)
}

// program makes turns by a program.
type program struct{ p api.Program }

func (d program) begin(t *task) (api.Turn, api.Errno) { return direct.Next(d.p, t.fn, t.args, nil) }

func (d program) resume(t *task) (api.Turn, api.Errno) {
	return direct.Next(d.p, t.fn, t.args, t.answers)
}

// compiled makes turns by a code. It keeps the frames with the task.
type compiled struct{ c api.Code }

func (m compiled) begin(t *task) (api.Turn, api.Errno) {
	frames, turn, err := machine.Start(m.c, t.fn, t.args)
	t.frames = frames
	return turn, err
}

func (m compiled) resume(t *task) (api.Turn, api.Errno) {
	frames, turn, err := machine.Go(m.c, t.frames, t.answers[len(t.answers)-1])
	t.frames = frames
	return turn, err
}

func thrown(text string) api.Fault { return api.Fault{Kind: api.FThrow, Text: text} }
