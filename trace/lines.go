package trace

import (
	"iter"
	"strconv"
	"strings"

	"seedbed/api"
	"seedbed/words"
)

// kinds holds the names of the kinds of events.
var kinds = [api.VLeft + 1]string{"", "start", "wait", "go", "emit", "open", "leave", "shield", "unveil", "strike", "cancel", "late", "acquire", "release", "leak", "make", "close", "lock", "free", "order", "time", "end", "left"}

// kindOf returns the kind with a name; 0, which is not valid: there is none.
func kindOf(name string) int {
	for kind, other := range kinds {
		if other == name {
			return kind
		}
	}
	return 0
}

// line returns the line of a valid event.
func line(e api.Event) string {
	list := []string{
		strconv.Itoa(e.At), strconv.Itoa(e.Task), kinds[e.Kind], strconv.Itoa(e.N), strconv.Itoa(e.M),
		words.Value(e.V), words.Fault(e.Fault),
	}
	return strings.Join(list, words.Blank) + words.LineFeed
}

// The states of a parser: which part of a line comes next, that the line is over, or that it is wrong.
const (
	inAt = iota
	inTask
	inKind
	inN
	inM
	inValue
	inFault
	isOver
	isWrong
)

// parser is a state machine that goes over lines.
type parser struct {
	words.Cursor
	event api.Event // that of the line
	wrong bool      // the line is
}

// events visits the events of the lines, up to one that is wrong.
func (p *parser) events() iter.Seq[api.Event] {
	return func(yield func(api.Event) bool) {
		for !p.AtEnd() {
			state := inAt
			for state < isOver {
				state = p.step(state)
			}
			p.wrong = state == isWrong || Check(p.event) != api.OK
			if p.wrong || !yield(p.event) {
				return
			}
		}
	}
}

// step reads a part of a line, and what stands behind it, and returns the next state.
func (p *parser) step(state int) int {
	ok, behind := false, words.Blank
	switch state {
	case inAt:
		p.event.At, ok = p.Number()
	case inTask:
		p.event.Task, ok = p.Number()
	case inKind:
		p.event.Kind, ok = kindOf(p.Word()), true
	case inN:
		p.event.N, ok = p.Number()
	case inM:
		p.event.M, ok = p.Number()
	case inValue:
		p.event.V, ok = p.Value()
	case inFault:
		p.event.Fault, ok = p.Fault()
		behind = words.LineFeed
	}
	if !ok || !p.Skip(behind) {
		return isWrong
	}
	return state + 1
}
