package snapshot

import (
	"reflect"
	"slices"
	"strconv"
	"strings"
	"testing"

	"seedbed/api"
	"seedbed/world"
)

// shot is a run and its snapshot.
type shot struct {
	source string
	s      api.Spec
	picks  []int
	steps  int
	text   string
}

func shots() []shot {
	sleeper := `fn main() { sleep 1; throw "m"; } fn a(c chan, t task, l lock, n int) { shield { sleep 9; } } fn b(b bool, e text) { sleep 3; } fn c() { }`
	big := []api.Value{{Kind: api.KChan, N: 1}, {Kind: api.KTask, N: 2}, {Kind: api.KLock, N: api.MaxInt}, number(-api.MaxInt)}
	all := api.Spec{Rule: api.RAll, Most: 3, Within: 5, Base: 2, Cap: 5, Services: []api.Service{{When: api.WFailed}, {Fn: 1, When: api.WAlways, Args: big}, {Fn: 2, When: api.WNever, Args: []api.Value{{Kind: api.KBool, N: 1}, text(` "\`)}}, {Fn: 3, When: api.WFailed}}}
	one := api.Spec{Rule: api.ROne, Most: 1, Within: 9, Base: 2, Cap: 5, Services: []api.Service{{When: api.WFailed}, {Fn: 1, When: api.WAlways}}}
	head := "seedbed 1\nrule 1 0 1 0 0\nservice 0 3\n"
	return []shot{
		{`fn main() { }`, mainAlone(), nil, 0, head + "picks\ntime 0 1\nout\ntask 1 0 1 0 0 0 1 _ - :\nstate 1 1 0\nwarden 0\nend\n"},
		{`fn main() { let c = chan 1; }`, mainAlone(), nil, 1, head + "picks 0\ntime 0 2\nout\ntask 1 0 4 0 1 0 1 _ - :\nchan 1 1 0 0 0 :\nstate 1 5 0\nwarden 0\nend\n"},
		{`fn main() { let c = chan 0; scope { let t = spawn a(c); await t; } } fn a(c chan) { receive c; }`, mainAlone(), nil, 2, head + "picks 0 0\ntime 0 3\nout\ntask 1 0 2 6 4 0 1 _ - :\ntask 2 1 2 10 1 0 0 _ - : c1\nchan 1 0 0 0 0 : 8\nscope 1 1 0 0 0 -1 2 : -\nstate 1 1 0\nwarden 0\nend\n"},
		{`fn main() { let a = chan 0; let b = chan 2 drop old; let c = chan 1 drop new; let d = chan 0; let e = chan 0; send b, 1; send b, 2; send b, -3; send c, 4; send c, 5; send c, 6; close c; scope { spawn s(a, 7); spawn s(a, -8); spawn r(d); spawn m(d, e); } } fn s(c chan, n int) { send c, n; } fn r(c chan) { receive c; } fn m(d chan, e chan) { select { after 9 { } receive x from d { } after 3 { } send e, 0 { } } }`, mainAlone(), nil, 11,
			head + "picks 0 0 0 0 0 0 0 0 0 0 0\ntime 0 1\nout\ntask 1 0 3 17 18 0 1 _ - :\ntask 2 1 2 9 1 0 0 _ - : c1 7\ntask 3 1 2 9 1 0 0 _ - : c1 -8\ntask 4 2 2 10 1 0 0 _ - : c4\ntask 5 3 2 15 1 0 0 _ - : c4 c5\nchan 1 0 0 0 0 : 8 7 12 -8\nchan 2 2 1 0 1 2 -3 :\nchan 3 1 2 1 2 4 :\nchan 4 0 0 0 0 : 16 21\nchan 5 0 0 0 0 : 23 0\nscope 1 1 0 0 0 -1 2 3 4 5 : -\nstate 1 1 0\nwarden 0\ntimer 3 5 2\ntimer 9 5 0\nend\n"},
		{`fn main() { let a = lock 3; let b = lock 1; let c = lock 16; scope supervised { spawn h(a, b); spawn h(a, b); spawn h(a, b); hold a { hold a { hold b { yield; sleep 5; } } } } } fn h(a lock, b lock) { hold a { hold b { } } }`, mainAlone(), []int{-4, 4, 8, 12, 5, -3, 0, 2, 0}, 9,
			head + "picks 0 0 0 0 1 1 0 0 0\ntime 0 1\nout\ntask 1 0 2 2 12 0 1 _ - :\ntask 2 1 2 13 2 0 0 _ - : l1 l2\ntask 3 1 2 13 1 0 0 _ - : l1 l2\ntask 4 1 2 13 1 0 0 _ - : l1 l2\nlock 1 3 0 1 2 2 1 : 3 4\nlock 2 1 0 1 1 : 2\nlock 3 16 16 :\nscope 1 1 1 0 0 -1 2 3 4 : -\nstate 1 1 0\nwarden 0\ntimer 5 1 0\nend\n"},
		{`fn main() { scope { scope within 9 { let x = spawn a(0, true, "t \"q\" \\"); let y = spawn a(1, false, ""); yield; cancel x; shield { yield; } } } } fn a(n int, b bool, e text) { emit n; emit b; emit e; scope supervised within 4 { spawn f(n, e); spawn f(n, e); sleep 6; } } fn f(n int, e text) { use r = 5 + n { use q = 7 { if n == 1 { throw e; } yield; } } yield; }`, mainAlone(), []int{0, 1, 1, 1, 2, 2, 2}, 14,
			head + "picks 0 1 1 1 2 2 2 0 0 0 0 0 0 0\ntime 0 1\nout 0 true \"t \\\"q\\\" \\\\\" 1 false \"\"\ntask 1 0 3 17 10 0 1 _ - :\ntask 2 1 4 0 8 1 0 _ cancel : 0 true \"t \\\"q\\\" \\\\\"\ntask 3 1 2 2 7 0 0 _ - : 1 false \"\"\ntask 4 2 4 0 6 0 0 _ cancel : 0 \"t \\\"q\\\" \\\\\"\ntask 5 2 4 0 6 0 0 _ - : 0 \"t \\\"q\\\" \\\\\"\ntask 6 2 4 0 4 0 0 _ throw \"\" : 1 \"\"\ntask 7 2 1 0 0 0 0 _ - : 1 \"\"\nscope 1 1 0 0 0 -1 : -\nscope 2 1 0 0 0 9 2 3 : -\nscope 3 2 1 1 1 -1 4 5 : -\nscope 4 3 1 0 0 4 6 7 : -\nstate 1 1 0\nwarden 0\ntimer 6 3 0\nentry 5 4 1 8\nentry 7 4 2 7\nentry 5 5 3 6\nentry 7 5 4 5\nentry 6 6 9 12\nentry 7 6 10 11\nend\n"},
		{`fn main() { scope within 3 { spawn a(); sleep 9; } } fn a() { shield { sleep 7; } throw "a b"; }`, mainAlone(), nil, 4,
			head + "picks 0 0 0 0\ntime 3 1\nout\ntask 1 0 3 17 4 0 1 _ - :\ntask 2 1 2 2 2 0 0 _ - :\nscope 1 1 0 0 1 -1 2 : throw \"late\"\nstate 1 1 0\nwarden 0\ntimer 7 2 0\nend\n"},
		{sleeper, all, nil, 9, "seedbed 1\nrule 2 3 5 2 5\nservice 0 2\nservice 1 1 c1 t2 l1000000000000 -1000000000000\nservice 2 3 true \" \\\"\\\\\"\nservice 3 2\npicks 0 0 0 0 0 0 0 0 0\ntime 9 1\nout\ntask 1 0 4 0 1 0 1 _ throw \"m\" :\ntask 2 1 4 0 3 1 2 _ - : c1 t2 l1000000000000 -1000000000000\ntask 3 2 4 0 1 1 3 _ cancel : true \" \\\"\\\\\"\ntask 4 3 4 0 0 0 4 _ - :\nstate 1 4 11\nstate 2 4 11\nstate 3 4 11\nstate 4 5 0\nwarden 0 1\nend\n"},
		{sleeper, all, nil, 15, "seedbed 1\nrule 2 3 5 2 5\nservice 0 2\nservice 1 1 c1 t2 l1000000000000 -1000000000000\nservice 2 3 true \" \\\"\\\\\"\nservice 3 2\npicks 0 0 0 0 0 0 0 0 0 0 0 0 0 0 0\ntime 12 1\nout\ntask 1 0 4 0 1 0 1 _ throw \"m\" :\ntask 2 1 4 0 3 1 2 _ - : c1 t2 l1000000000000 -1000000000000\ntask 3 2 4 0 1 1 3 _ cancel : true \" \\\"\\\\\"\ntask 4 3 4 0 0 0 4 _ - :\ntask 5 0 4 0 1 0 1 _ throw \"m\" :\ntask 6 1 2 2 2 1 2 _ - : c1 t2 l1000000000000 -1000000000000\ntask 7 2 1 0 1 1 3 _ - : true \" \\\"\\\\\"\nstate 1 3 0\nstate 2 2 0\nstate 3 2 0\nstate 4 5 0\nwarden 2 1 12\ntimer 20 6 0\nend\n"},
		{`fn main() { sleep 1; throw "m"; } fn a() { shield { sleep 9; } }`, one, nil, 8, "seedbed 1\nrule 1 1 9 2 5\nservice 0 2\nservice 1 1\npicks 0 0 0 0 0 0 0 0\ntime 4 1\nout\ntask 1 0 4 0 1 0 1 _ throw \"m\" :\ntask 2 1 2 2 2 1 2 _ - :\ntask 3 0 4 0 1 0 1 _ throw \"m\" :\nstate 1 5 0\nstate 2 2 0\nwarden 0 1 4\ntimer 9 2 0\nend\n"},
		{`fn main() int { return 7; } fn a() bool { return true; }`, one, nil, 2, "seedbed 1\nrule 1 1 9 2 5\nservice 0 2\nservice 1 1\npicks 0 0\ntime 0 1\nout\ntask 1 0 4 0 0 0 1 7 - :\ntask 2 1 4 0 0 0 2 true - :\nstate 1 5 0\nstate 2 4 2\nwarden 0 0\nend\n"},
	}
}

// make returns the run of a snapshot.
func (x shot) make(t *testing.T, e *world.Engine) *world.World {
	t.Helper()
	w := newWorld(t, e, x.s)
	if n := w.Run(x.picks, x.steps); n != x.steps {
		t.Fatalf("%s: %d steps", x.source, n)
	}
	return w
}

// TestP261Shots checks whole snapshots, by both engines.
func TestP261Shots(t *testing.T) {
	for _, x := range shots() {
		for _, e := range engines(t, x.source) {
			w := x.make(t, e)
			if s, err := Text(w); s != x.text || err != api.OK {
				t.Errorf("%s: %d\n%s\nwant\n%s", x.source, err, s, x.text)
			}
			at := strings.Index(x.text, "\ntime") + 1
			if s := State(w); s != x.text[at:] {
				t.Errorf("%s: State\n%s\nwant\n%s", x.source, s, x.text[at:])
			}
			s, picks, err := Parse(x.text)
			if !reflect.DeepEqual(s, w.Spec()) || !slices.Equal(picks, w.Picks()) || err != api.OK {
				t.Errorf("%s: Parse = %v, %v, %d", x.source, s, picks, err)
			}
			v, err := Read(e, x.text)
			if err != api.OK || !slices.Equal(v.Trace(), w.Trace()) {
				t.Errorf("%s: Read: %d", x.source, err)
			}
		}
	}
}

// TestP261Nil checks nil objects, and runs and engines that were not made by a function.
func TestP261Nil(t *testing.T) {
	if s, err := Text(nil); s != "" || err != api.ErrArg || State(nil) != "" {
		t.Errorf("Text(nil) = %q, %d, State(nil) = %q", s, err, State(nil))
	}
	for _, s := range []string{"", shots()[0].text, strings.Repeat("x", api.MaxShot+1)} {
		if w, err := Read(nil, s); w != nil || err != api.ErrArg {
			t.Errorf("Read(nil, %q) = %v, %d", s, w, err)
		}
	}
	empty := &world.World{}
	if s, err := Text(empty); s != "seedbed 1\nrule 0 0 0 0 0\npicks\n"+State(empty) || err != api.OK || State(empty) != "time 0 2\nout\nwarden 0\nend\n" {
		t.Errorf("Text = %q, %d", s, err)
	}
	if w, err := Read(&world.Engine{}, textOf(t, empty)); w != nil || err != api.ErrSyntax {
		t.Errorf("Read = %v, %d", w, err)
	}
	w := newWorld(t, &world.Engine{}, mainAlone())
	w.Step(0)
	if v, err := Read(&world.Engine{}, textOf(t, w)); err != api.OK || textOf(t, v) != textOf(t, w) {
		t.Errorf("Read: %d", err)
	}
}

// TestP261Picks checks how many steps a run can have made.
func TestP261Picks(t *testing.T) {
	s := mainAlone()
	s.Services = slices.Repeat(s.Services, api.MaxServ)
	e := engines(t, `fn main() { while true { yield; } }`)[1]
	w := newWorld(t, e, s)
	w.Run(nil, api.MaxPicks)
	full := textOf(t, w)
	if v, err := Read(e, full); err != api.OK || textOf(t, v) != full {
		t.Errorf("Read of %d steps: %d", api.MaxPicks, err)
	}
	if err := w.Step(0); err != api.OK {
		t.Fatalf("Step: %d", err)
	}
	if s, err := Text(w); s != "" || err != api.ErrFull {
		t.Errorf("Text of %d steps: %d bytes, %d", api.MaxPicks+1, len(s), err)
	}
	if !strings.HasPrefix(State(w), "time 0 1\n") {
		t.Errorf("State of %d steps: %q", api.MaxPicks+1, State(w))
	}
	if _, picks, err := Parse(full); len(picks) != api.MaxPicks || err != api.OK {
		t.Errorf("Parse of %d picks: %d, %d", api.MaxPicks, len(picks), err)
	}
	more := strings.Replace(full, "picks", "picks 0", 1)
	wantSyntax(t, more)
	if w, err := Read(e, more); w != nil || err != api.ErrSyntax {
		t.Errorf("Read of too many picks: %d", err)
	}
}

func wantSyntax(t *testing.T, s string) {
	t.Helper()
	if spec, picks, err := Parse(s); !reflect.DeepEqual(spec, api.Spec{}) || picks != nil || err != api.ErrSyntax {
		t.Errorf("Parse(%.200q) = %v, %v, %d", s, spec, picks, err)
	}
}

// TestP261Long checks how many bytes a snapshot can have.
func TestP261Long(t *testing.T) {
	e := engines(t, `fn main() { } fn a(e text, n int) { while n > 0 { emit e; n = n - 1; } }`)[1]
	long := func(empty, letters int) *world.World {
		s := mainAlone()
		for _, args := range [][]api.Value{{text(strings.Repeat(`"`, api.MaxText)), number(390)}, {text(strings.Repeat("a", api.MaxText)), number(170)}, {text(""), number(100 + empty)}, {text(strings.Repeat("a", letters)), number(3)}} {
			s.Services = append(s.Services, api.Service{Fn: 1, Args: args, When: api.WNever})
		}
		w := newWorld(t, e, s)
		w.Run(nil, len(s.Services))
		return w
	}
	least := len(shotOf(long(0, 0)))
	for want := api.MaxShot - 9; want <= api.MaxShot+9; want++ {
		// Each letter takes five bytes, and each empty text three.
		letters := 0
		for (want-least-5*letters)%3 != 0 {
			letters++
		}
		w := long((want-least-5*letters)/3, letters)
		shot := shotOf(w)
		if len(shot) != want {
			t.Fatalf("%d bytes, want %d", len(shot), want)
		}
		s, err := Text(w)
		if want > api.MaxShot {
			if s != "" || err != api.ErrFull {
				t.Errorf("Text of %d bytes: %d bytes, %d", want, len(s), err)
			}
			continue
		}
		if s != shot || err != api.OK {
			t.Errorf("Text of %d bytes: %d bytes, %d", want, len(s), err)
		}
		if v, err := Read(e, s); err != api.OK || textOf(t, v) != s {
			t.Errorf("Read of %d bytes: %d", want, err)
		}
	}
}

// TestP261Parse checks what is read of strings that are no snapshots.
func TestP261Parse(t *testing.T) {
	full := "seedbed 1\nrule 3 20 1000000000000 0 1000000000000\nservice 9223372036854775807 1 _ -5 \"a b\" l7\nservice 0 2\npicks 0 9223372036854775807 12\n"
	want := api.Spec{Rule: 3, Most: 20, Within: api.MaxTime, Cap: api.MaxTime, Services: []api.Service{{Fn: 1<<63 - 1, When: 1, Args: []api.Value{{}, number(-5), text("a b"), {Kind: api.KLock, N: 7}}}, {When: 2}}}
	for _, rest := range []string{"", "\n", "x", "picks 1\n", strings.Repeat("x", api.MaxShot-len(full))} {
		if s, picks, err := Parse(full + rest); !reflect.DeepEqual(s, want) || !slices.Equal(picks, []int{0, 1<<63 - 1, 12}) || err != api.OK {
			t.Errorf("Parse(%.200q) = %v, %v, %d", full+rest, s, picks, err)
		}
	}
	for _, s := range []string{full + strings.Repeat("x", api.MaxShot-len(full)+1), strings.Repeat("\n", api.MaxShot+1), strings.Repeat("x", 10*api.MaxShot)} {
		if spec, picks, err := Parse(s); !reflect.DeepEqual(spec, api.Spec{}) || picks != nil || err != api.ErrFull {
			t.Errorf("Parse(%.50q) = %v, %v, %d", s, spec, picks, err)
		}
	}
	lines := strings.SplitAfter(full, "\n")
	for i := range lines[:5] {
		without := slices.Delete(slices.Clone(lines), i, i+1)
		if i != 2 && i != 3 {
			wantSyntax(t, strings.Join(without, ""))
		}
		wantSyntax(t, strings.Join(slices.Insert(slices.Clone(lines), i, "\n"), ""))
		wantSyntax(t, strings.Join(slices.Insert(slices.Clone(lines), i, "x\n"), ""))
		if i < 2 {
			wantSyntax(t, strings.Join(slices.Insert(slices.Clone(lines), i, lines[i]), ""))
		}
	}
	wantSyntax(t, "")
	wantSyntax(t, strings.TrimSuffix(full, "\n"))
	wantSyntax(t, lines[0]+lines[1]+lines[4])
	for _, x := range []struct {
		line int
		list []string
	}{
		{0, []string{"seedbed", "seedbed 2", "seedbed 12", "seedbed 1 ", "seedbed 01", " seedbed 1", "Seedbed 1", "seedbed  1"}},
		{1, []string{"rule", "rule 3 20 1 0", "rule 3 20 1 0 0 0", "rule 3 20 1 0 0 ", "rule  3 20 1 0 0", "rule 0 20 1 0 0", "rule 4 20 1 0 0", "rule 1 21 1 0 0", "rule 1 -1 1 0 0", "rule 1 0 0 0 0", "rule 1 0 1000000000001 0 0", "rule 1 0 1 1 0", "rule 1 0 1 -1 0", "rule 1 0 1 0 1000000000001", "rule 1 0 1 0 _", "rule 1 0 1 0 -0", "rule 01 0 1 0 0", "rule 1 0 1 0 99999999999999999999", "rules 1 0 1 0 0", "rule1 0 1 0 0"}},
		{2, []string{"service", "service 0", "service 0 ", "service 0 0", "service 0 4", "service -1 1", "service 0 1 ", "service 0 1  1", "service 0 1 1 2 3 4 5", "service 0 1 05", "service 0 1 -", "service 0 1 unit", "service 0 1 c0", "service 0 1 1000000000001", "service 0 1 \"a", "service 0 1 a b", "service 9223372036854775808 1", "service00 1", "services 0 1", "service\t0 1"}},
		{4, []string{"picks ", "picks -1", "picks -0", "picks 00", "picks 0 ", "picks  0", "picks 0  0", "picks x", "picks 9223372036854775808", "picks 1:", "picks :", "picks0", "picks _", "pick 0"}},
	} {
		for _, line := range x.list {
			other := slices.Clone(lines)
			other[x.line] = line + "\n"
			wantSyntax(t, strings.Join(other, ""))
		}
	}
	wantSyntax(t, lines[0]+lines[1]+strings.Repeat("service 0 1\n", api.MaxServ+1)+lines[4])
	if s, _, err := Parse(lines[0] + lines[1] + strings.Repeat("service 0 1\n", api.MaxServ) + "picks\n"); len(s.Services) != api.MaxServ || err != api.OK {
		t.Errorf("Parse of all services: %v, %d", s, err)
	}
}

// TestP261Read checks what is no snapshot of a run of an engine.
func TestP261Read(t *testing.T) {
	source := `fn main() { scope { spawn a(1); spawn a(2); } } fn a(x int) { yield; emit x; }`
	both := engines(t, source)
	other := engines(t, strings.Replace(source, "emit x", "emit 3", 1))
	for i, e := range both {
		w := newWorld(t, e, mainAlone())
		w.Run([]int{0, 1, 1}, 4)
		good := textOf(t, w)
		if v, err := Read(e, good); err != api.OK || textOf(t, v) != good {
			t.Errorf("Read: %d", err)
		}
		long := w.Copy()
		long.Run(nil, 100)
		end := textOf(t, long)
		for s, want := range map[string]api.Errno{
			"":                                  api.ErrSyntax,
			good[1:]:                            api.ErrSyntax,
			strings.Repeat("x", api.MaxShot):    api.ErrSyntax,
			strings.Repeat("x", api.MaxShot+1):  api.ErrFull,
			good[:len(good)-1]:                  api.ErrAnswer,
			good + "\n":                         api.ErrAnswer,
			good + good:                         api.ErrAnswer,
			strings.SplitAfter(good, "time")[0]: api.ErrAnswer,
			strings.Replace(good, "picks 0 1", "picks 0 3", 1):     api.ErrAnswer, // that is the second one of two tasks, too
			strings.Replace(good, "picks 0 1", "picks 0 0", 1):     api.ErrAnswer,
			strings.Replace(good, "picks 0 1", "picks 0", 1):       api.ErrAnswer,
			strings.Replace(end, "picks", "picks 0", 1):            api.ErrAnswer, // a step too many
			strings.Replace(good, "time 0 1", "time 0 2", 1):       api.ErrAnswer,
			strings.Replace(good, "service 0 3", "service 1 3", 1): api.ErrAnswer,
			strings.Replace(good, "service 0 3", "service 0 4", 1): api.ErrSyntax,
			strings.Replace(good, "rule 1", "rule 0", 1):           api.ErrSyntax,
		} {
			if v, err := Read(e, s); v != nil || err != want {
				t.Errorf("Read(%.300q) = %v, %d, want %d", s, v, err, want)
			}
		}
		if v, err := Read(other[i], end); v != nil || err != api.ErrAnswer {
			t.Errorf("Read by another program: %d", err)
		}
		if v, err := Read(both[1-i], end); err != api.OK || textOf(t, v) != end {
			t.Errorf("Read by the other engine: %d", err)
		}
		// What is not told by a state can be another one.
		never := strings.Replace(good, "service 0 3", "service 0 "+strconv.Itoa(api.WFailed), 1)
		if v, err := Read(e, never); err != api.OK || textOf(t, v) != never {
			t.Errorf("Read: %d", err)
		}
	}
}
