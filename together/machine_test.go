package together

import (
	"math"
	"reflect"
	"testing"

	"seedbed/api"
	"seedbed/code"
	"seedbed/machine"
	"seedbed/pack"
	"seedbed/tidy"
)

// TestP144Walks checks that the frames of coroutines are good, that they can be written and read, that going on changes none of them, and that Next and All do the same as Start and Go.
func TestP144Walks(t *testing.T) {
	t.Parallel()
	deep := 0
	walks(t, 500, func(k *coder, c api.Code, x walk) {
		got, err := machine.All(c, x.fn, x.args, x.answers)
		if err != api.OK || !reflect.DeepEqual(got, x.turns) {
			t.Fatalf("%s: All(%d, %v, %v) = %v, %d, want %v", textOf(c), x.fn, x.args, x.answers, got, err, x.turns)
		}
		if turn, err := machine.Next(c, x.fn, x.args, x.answers); err != api.OK || !reflect.DeepEqual(turn, x.last()) {
			t.Fatalf("%s: Next(%d, %v, %v) = %v, %d, want %v", textOf(c), x.fn, x.args, x.answers, turn, err, x.last())
		}
		for i, turn := range x.turns {
			frames := x.frames[i]
			if turn.Done {
				if len(frames) > 0 {
					t.Fatalf("%s: %d with %v after %v is done, with %v", textOf(c), x.fn, x.args, x.answers, frames)
				}
				continue
			}
			deep = max(deep, len(frames))
			ask, err := machine.Waits(c, frames)
			if !machine.Good(c, frames) || err != api.OK || !reflect.DeepEqual(ask, turn.Ask) {
				t.Fatalf("%s: %v are not good, or wait for %v, %d", textOf(c), frames, ask, err)
			}
			text, err := machine.Text(frames)
			read, other := machine.Read(text)
			if err != api.OK || other != api.OK || !reflect.DeepEqual(read, frames) {
				t.Fatalf("Read(%q) = %v, %d, want %v", text, read, other, frames)
			}
			if i == len(x.answers) {
				continue
			}
			next, after, err := machine.Go(c, read, x.answers[i])
			if err != api.OK || !reflect.DeepEqual(after, x.turns[i+1]) || len(next) != len(x.frames[i+1]) || len(next) > 0 && !reflect.DeepEqual(next, x.frames[i+1]) {
				t.Fatalf("%s: Go(%v, %v) = %v, %v, %d", textOf(c), read, x.answers[i], next, after, err)
			}
			if !reflect.DeepEqual(read, frames) {
				t.Fatalf("%s: Go(%v, %v) changes them to %v", textOf(c), frames, x.answers[i], read)
			}
		}
	})
	if deep < 5 {
		t.Errorf("at most %d frames", deep)
	}
}

// TestP104Walks checks that valid codes that are executed with any replies never leave their places and slots.
func TestP104Walks(t *testing.T) {
	t.Parallel()
	asked := map[int]int{}
	walks(t, 500, func(k *coder, c api.Code, x walk) {
		for i, turn := range x.turns {
			asked[turn.Ask.Kind]++
			for _, f := range x.frames[i] {
				if f.Fn < 0 || f.Fn >= len(c.Funcs) || f.Pc < 0 || f.Pc >= len(c.Funcs[f.Fn].Code) || len(f.Slots) != c.Funcs[f.Fn].Slots {
					t.Fatalf("%s: the frame %v", textOf(c), f)
				}
			}
		}
	})
	for ask := range api.ARelease + 1 {
		if asked[ask] < 10 {
			t.Errorf("only %d turns of the kind %d", asked[ask], ask)
		}
	}
}

// TestP134Random checks that codes can be packed and unpacked, and that no packed code of which a byte is changed is one.
func TestP134Random(t *testing.T) {
	t.Parallel()
	codes(t, 1000, func(k *coder, c api.Code) {
		bytes, err := pack.Pack(c)
		if err != api.OK {
			t.Fatalf("Pack of %s: %d", textOf(c), err)
		}
		d, err := pack.Unpack(bytes)
		if err != api.OK || !code.Same(c, d) {
			t.Fatalf("Unpack of %q = %s, %d, want %s", bytes, textOf(d), err, textOf(c))
		}
		if n, err := pack.Damage(bytes); n != 0 || err != api.OK {
			t.Fatalf("Damage of %q = %d, %d", bytes, n, err)
		}
		for range 20 {
			changed := []byte(bytes)
			changed[k.r.IntN(len(changed))] += byte(1 + k.r.IntN(255))
			if _, err := pack.Unpack(string(changed)); err != api.ErrBytes {
				t.Fatalf("Unpack of %q, which was %q: %d", changed, bytes, err)
			}
		}
	})
}

// TestP1Codes checks that nothing panics for codes and frames of which anything was changed, and that what takes a code takes valid ones alone.
func TestP1Codes(t *testing.T) {
	t.Parallel()
	numbers := []int{-2, -1, 0, 1, 2, 5, 30, 1 << 40, math.MaxInt, math.MinInt}
	valid := 0
	walks(t, 300, func(k *coder, c api.Code, x walk) {
		c, _ = code.Clone(c)
		f := &c.Funcs[k.r.IntN(len(c.Funcs))]
		in := &f.Code[k.r.IntN(len(f.Code))]
		fields := []*int{&f.Params, &f.Slots, &in.Op, &in.A, &in.B, &in.C, &in.V.Kind, &in.V.N}
		for i := range in.L {
			fields = append(fields, &in.L[i])
		}
		for i := range f.Guards {
			fields = append(fields, &f.Guards[i].From, &f.Guards[i].To, &f.Guards[i].At, &f.Guards[i].Slot)
		}
		*fields[k.r.IntN(len(fields))] = k.pick(numbers...)
		want := code.Check(c)
		if want == api.OK {
			valid++
		}
		_, one := tidy.Tidy(c)
		_, two := tidy.Live(c, 0)
		_, three := tidy.IsTidy(c)
		if _, four := pack.Pack(c); one != want || two != want || three != want || four != want {
			t.Fatalf("%v: %d, %d, %d, %d, want %d", c, one, two, three, four, want)
		}
		_, _, err := machine.Start(c, x.fn, x.args)
		if (err == api.ErrCode) != (want == api.ErrCode) {
			t.Fatalf("Start of %v: %d", c, err)
		}
		for _, frames := range x.frames {
			if machine.Good(c, frames) && want != api.OK {
				t.Fatalf("%v are good for %v", frames, c)
			}
			for _, answer := range x.answers {
				if _, _, err := machine.Go(c, frames, answer); (err == api.ErrCode) != (want == api.ErrCode) {
					t.Fatalf("Go of %v: %d", c, err)
				}
			}
		}
	})
	if valid < 50 {
		t.Errorf("only %d are valid", valid)
	}
}
