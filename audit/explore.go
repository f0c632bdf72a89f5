package audit

import (
	"cmp"
	"slices"
	"strings"

	"seedbed/api"
	"seedbed/snapshot"
	"seedbed/trace"
	"seedbed/world"
)

// states are the texts of the runs that were found: equivalent runs have the same one.
type states map[string]bool

// ending is an ending with the texts of its values.
type ending struct {
	api.Ending
	texts []string
}

// explorer finds runs level by level.
type explorer struct {
	states
	last    []*world.World // the runs of the last level
	endings []ending
}

func newExplorer() *explorer { return &explorer{states: states{}} }

// find adds a run to the last level, unless one that is equivalent was found before.
func (x *explorer) find(w *world.World) {
	text := textOf(w)
	if x.states[text] {
		return
	}
	x.states[text] = true
	x.last = append(x.last, w)
	if status := w.Status(); status != api.UnderWay {
		out := w.Out()
		x.endings = append(x.endings, ending{api.Ending{Status: status, Out: out}, textsOf(out)})
	}
}

// level finds the next level. It reports whether there are not too many states.
func (x *explorer) level() bool {
	level := x.last
	x.last = nil
	for _, w := range level {
		for pick := range max(1, len(w.Ready())) {
			next := w.Copy()
			if next.Step(pick) == api.OK {
				x.find(next)
			}
			if len(x.states) > api.MaxStates {
				return false
			}
		}
	}
	return true
}

// survey tells what was found.
func (x *explorer) survey() api.Survey {
	s := api.Survey{States: len(x.states)}
	slices.SortFunc(x.endings, compare)
	for _, e := range slices.CompactFunc(x.endings, isSame) {
		s.Endings = append(s.Endings, e.Ending)
	}
	s.Cut = slices.ContainsFunc(x.last, func(w *world.World) bool { return w.Status() == api.UnderWay })
	return s
}

func compare(a, b ending) int {
	return cmp.Or(cmp.Compare(a.Status, b.Status), cmp.Compare(len(a.texts), len(b.texts)), slices.Compare(a.texts, b.texts))
}

func isSame(a, b ending) bool { return compare(a, b) == 0 }

// textOf returns the state of a run, and the replies of its tasks as events.
func textOf(w *world.World) string {
	var out strings.Builder
	out.WriteString(snapshot.State(w))
	for n := 1; ; n++ {
		if _, err := w.Task(n); err != api.OK {
			return out.String()
		}
		var events []api.Event
		for _, a := range w.Answers(n) {
			events = append(events, api.Event{Task: n, Kind: api.VGo, M: a.Index, V: a.V, Fault: a.Fault})
		}
		text, _ := trace.Text(events)
		out.WriteString(text)
	}
}

func textsOf(list []api.Value) []string {
	var texts []string
	for _, v := range list {
		text, _ := trace.Value(v)
		texts = append(texts, text)
	}
	return texts
}
