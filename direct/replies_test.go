package direct

import (
	"math"
	"strings"
	"testing"

	"seedbed/api"
)

// replied returns what asks are replied to with, as the table of DOC.md has it, and whether they can be with FCancel.
func replied() map[int]struct {
	kind   int
	cancel bool
} {
	type entry = struct {
		kind   int
		cancel bool
	}
	return map[int]entry{
		api.AYield: {0, true}, api.ASleep: {0, true}, api.AEmit: {0, false}, api.ANow: {api.KInt, false}, api.ASpawn: {api.KTask, false}, api.AAwait: {api.KInt, true}, api.ACancel: {0, false},
		api.AChan: {api.KChan, false}, api.ASend: {0, true}, api.AReceive: {api.KInt, true}, api.AClose: {0, false}, api.ALock: {api.KLock, false}, api.AHold: {0, true}, api.AFree: {0, false},
		api.AOpen: {0, false}, api.ALeave: {0, true}, api.AShield: {0, false}, api.AUnveil: {0, false}, api.AAcquire: {0, false}, api.ARelease: {0, false},
	}
}

func values() []api.Value {
	list := []api.Value{{}, {N: 1}, {S: "a"}, {Kind: -1}, {Kind: 7}, num(0), num(-5), num(api.MaxInt), num(api.MaxInt + 1), {Kind: api.KInt, S: "a"}, {Kind: api.KBool}, {Kind: api.KBool, N: 1}, {Kind: api.KBool, N: 2}, {Kind: api.KText}, {Kind: api.KText, S: "a"}, {Kind: api.KText, S: "\n"}}
	for kind := api.KChan; kind <= api.KLock; kind++ {
		list = append(list, api.Value{Kind: kind, N: 1}, api.Value{Kind: kind, N: api.MaxInt}, api.Value{Kind: kind}, api.Value{Kind: kind, N: -1}, api.Value{Kind: kind, N: 1, S: "a"})
	}
	return list
}

// goodOf returns those of values that are valid and of a kind.
func goodOf(kind int) []api.Value {
	return map[int][]api.Value{
		api.KUnit: {{}}, api.KInt: {num(0), num(-5), num(api.MaxInt)}, api.KTask: {{Kind: api.KTask, N: 1}, {Kind: api.KTask, N: api.MaxInt}},
		api.KChan: {channel(1), channel(api.MaxInt)}, api.KLock: {{Kind: api.KLock, N: 1}, {Kind: api.KLock, N: api.MaxInt}},
	}[kind]
}

func isIn(v api.Value, list []api.Value) bool {
	for _, w := range list {
		if v == w {
			return true
		}
	}
	return false
}

func wantFits(t *testing.T, ask api.Ask, r api.Answer, fits bool) {
	t.Helper()
	want := api.ErrAnswer
	if fits {
		want = api.OK
	}
	if err := Fits(ask, r); err != want {
		t.Errorf("Fits(%v, %v) = %d, want %d", ask, r, err, want)
	}
}

// TestP82Fits checks all values and faults as replies to all asks but selects.
func TestP82Fits(t *testing.T) {
	long := strings.Repeat("a", 60)
	for kind := -1; kind <= 23; kind++ {
		entry, is := replied()[kind]
		if kind == api.ASelect {
			continue
		}
		ask := api.Ask{Kind: kind}
		for _, v := range values() {
			wantFits(t, ask, api.Answer{V: v}, is && isIn(v, goodOf(entry.kind)))
			for _, index := range []int{-1, 1, math.MinInt, math.MaxInt} {
				wantFits(t, ask, api.Answer{V: v, Index: index}, false)
			}
			if v != (api.Value{}) {
				wantFits(t, ask, api.Answer{V: v, Fault: api.Fault{Kind: api.FThrow}}, false)
				wantFits(t, ask, api.Answer{V: v, Fault: api.Fault{Kind: api.FCancel}}, false)
			}
		}
		for _, text := range []string{"", "closed", "anything", long} {
			wantFits(t, ask, api.Answer{Fault: api.Fault{Kind: api.FThrow, Text: text}}, is)
			wantFits(t, ask, api.Answer{Fault: api.Fault{Kind: api.FThrow, Text: text}, Index: 1}, false)
		}
		wantFits(t, ask, api.Answer{Fault: api.Fault{Kind: api.FCancel}}, entry.cancel)
		for _, f := range []api.Fault{{Text: "a"}, {Kind: api.FThrow, Text: long + "a"}, {Kind: api.FThrow, Text: "\n"}, {Kind: api.FCancel, Text: "a"}, {Kind: 3}, {Kind: -1}} {
			wantFits(t, ask, api.Answer{Fault: f}, false)
			for _, v := range goodOf(entry.kind) {
				wantFits(t, ask, api.Answer{V: v, Fault: f}, false)
			}
		}
		point := entry.cancel && kind != api.ALeave
		if IsPoint(ask) != point {
			t.Errorf("IsPoint(%d) = %t", kind, !point)
		}
	}
	wantFits(t, api.Ask{Kind: math.MinInt}, api.Answer{}, false)
	wantFits(t, api.Ask{Kind: math.MaxInt}, api.Answer{}, false)
	wantFits(t, api.Ask{Kind: api.ASleep, N: -math.MaxInt, V: api.Value{Kind: 9}, Args: []api.Value{{Kind: 9}}}, api.Answer{}, true)
}

// TestP82FitsSelect checks replies to selects: their index says what value they have.
func TestP82FitsSelect(t *testing.T) {
	receive, send, later := api.Arm{Op: api.CReceive, V: channel(1)}, api.Arm{Op: api.CSend, V: channel(1), W: num(1)}, api.Arm{Op: api.CAfter, N: 1}
	for _, arms := range [][]api.Arm{nil, {receive}, {send}, {later}, {receive, send, later}, {send, receive, receive, later}, {later, later, later, later, later, receive}} {
		for other := range 3 {
			ask := api.Ask{Kind: api.ASelect, Arms: arms, N: other}
			if !IsPoint(ask) {
				t.Error("a select is no point")
			}
			for index := -2; index <= len(arms)+2; index++ {
				arm := index >= 0 && index < len(arms)
				is := arm || other == 1 && index == len(arms)
				kind := api.KUnit
				if arm && arms[index].Op == api.CReceive {
					kind = api.KInt
				}
				for _, v := range values() {
					wantFits(t, ask, api.Answer{V: v, Index: index}, is && isIn(v, goodOf(kind)))
				}
				for _, f := range []api.Fault{{Kind: api.FCancel}, {Kind: api.FThrow, Text: "kind"}} {
					wantFits(t, ask, api.Answer{Index: index, Fault: f}, index == 0)
				}
			}
			wantFits(t, ask, api.Answer{Index: math.MaxInt}, false)
			wantFits(t, ask, api.Answer{Index: math.MinInt}, false)
			wantFits(t, ask, api.Answer{Fault: api.Fault{Kind: api.FCancel, Text: "a"}}, false)
		}
	}
}

// TestP82Usual checks the usual reply to each ask, with numbers at the ends of their ranges.
func TestP82Usual(t *testing.T) {
	for kind := -1; kind <= 23; kind++ {
		for _, n := range []int{-api.MaxInt, -1, 0, 1, 2, 99, api.MaxInt} {
			entry, is := replied()[kind]
			want := api.Answer{V: api.Value{Kind: entry.kind}}
			switch {
			case entry.kind == api.KInt:
				want.V.N = n
			case entry.kind != api.KUnit:
				want.V.N = max(n, 1)
			}
			ask := api.Ask{Kind: kind, N: 5, M: -1}
			if !is {
				wantUsual(t, ask, n, api.Answer{}, api.ErrArg)
				continue
			}
			wantUsual(t, ask, n, want, api.OK)
			wantFits(t, ask, want, true)
		}
		for _, n := range []int{api.MaxInt + 1, -api.MaxInt - 1, math.MaxInt, math.MinInt} {
			wantUsual(t, api.Ask{Kind: kind, N: 1}, n, api.Answer{}, api.ErrArg)
		}
	}
	for _, n := range []int{-7, 0, 7} {
		for other := range 3 {
			wantUsual(t, api.Ask{Kind: api.ASelect, Arms: []api.Arm{{Op: api.CReceive}}, N: other}, n, api.Answer{V: num(n)}, api.OK)
			wantUsual(t, api.Ask{Kind: api.ASelect, Arms: []api.Arm{{Op: api.CSend}, {Op: api.CReceive}}, N: other}, n, api.Answer{}, api.OK)
			wantUsual(t, api.Ask{Kind: api.ASelect, Arms: []api.Arm{{Op: api.CAfter}}, N: other}, n, api.Answer{}, api.OK)
		}
		wantUsual(t, api.Ask{Kind: api.ASelect, N: 1}, n, api.Answer{}, api.OK)
		wantUsual(t, api.Ask{Kind: api.ASelect}, n, api.Answer{}, api.ErrArg)
		wantUsual(t, api.Ask{Kind: api.ASelect, N: 2}, n, api.Answer{}, api.ErrArg)
	}
}

func wantUsual(t *testing.T, ask api.Ask, n int, want api.Answer, wantErr api.Errno) {
	t.Helper()
	if got, err := Usual(ask, n); got != want || err != wantErr {
		t.Errorf("Usual(%v, %d) = %v, %d, want %v, %d", ask, n, got, err, want, wantErr)
	}
}
