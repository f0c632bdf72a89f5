package cancel

import (
	"cmp"
	"container/heap"
	"slices"

	"seedbed/api"
)

// deadline is the time within which a scope must be over.
type deadline struct{ at, scope int }

// deadlines is a heap of those deadlines of running scopes that have not come, the one that comes first on top.
type deadlines []deadline

// Len, Less, Swap, Push and Pop are what container/heap asks for.
func (h deadlines) Len() int { return len(h) }

func (h deadlines) Less(i, j int) bool {
	return cmp.Or(cmp.Compare(h[i].at, h[j].at), cmp.Compare(h[i].scope, h[j].scope)) < 0
}

func (h deadlines) Swap(i, j int) { h[i], h[j] = h[j], h[i] }

func (h *deadlines) Push(x any) {
	if d, ok := x.(deadline); ok {
		*h = append(*h, d)
	}
}

func (h *deadlines) Pop() any {
	last := len(*h) - 1
	d := (*h)[last]
	*h = (*h)[:last]
	return d
}

// first returns the deadline that comes first.
func (h deadlines) first() (deadline, bool) {
	if len(h) == 0 {
		return deadline{}, false
	}
	return h[0], true
}

func (h deadlines) place(scope int) int {
	return slices.IndexFunc(h, func(d deadline) bool { return d.scope == scope })
}

// of returns the deadline of a link, which only a scope can have.
func (h deadlines) of(l api.Link) (int, bool) {
	if l.Kind != api.LScope {
		return 0, false
	}
	at := h.place(l.N)
	if at < 0 {
		return 0, false
	}
	return h[at].at, true
}

// drop removes the deadline of a scope that is over, if it has one.
func (h *deadlines) drop(scope int) {
	if at := h.place(scope); at >= 0 {
		heap.Remove(h, at)
	}
}
