package machine

import (
	"math"
	"reflect"
	"slices"
	"strings"
	"testing"

	"seedbed/api"
)

// TestP143Texts checks texts of frames, and that they are read.
func TestP143Texts(t *testing.T) {
	for text, frames := range map[string][]api.Frame{
		"":                                   nil,
		"0 0 -1\n":                           {{To: -1}},
		"0 0 0\n":                            {{}},
		"3 -7 12\n":                          {{Fn: 3, Pc: -7, To: 12}},
		"0 1 2 5\n":                          {{Pc: 1, To: 2, Slots: []api.Value{num(5)}}},
		"0 0 0 unit unit\n0 0 0\n1 1 1 -5\n": {{Slots: make([]api.Value, 2)}, {}, {Fn: 1, Pc: 1, To: 1, Slots: []api.Value{num(-5)}}},
		"0 0 0 true false chan#1 task#22 lock#333\n":     {{Slots: []api.Value{truth(1), truth(0), {Kind: api.KChan, N: 1}, {Kind: api.KTask, N: 22}, {Kind: api.KLock, N: 333}}}},
		`0 0 0 "" "a b" " " "\"" "\\" "\\\" x" 1` + "\n": {{Slots: []api.Value{str(""), str("a b"), str(" "), str(`"`), str(`\`), str(`\" x`), num(1)}}},
		"9223372036854775807 -9223372036854775808 0\n":   {{Fn: math.MaxInt, Pc: math.MinInt}},
	} {
		got, err := Text(frames)
		if got != text || err != api.OK {
			t.Errorf("Text(%v) = %q, %d, want %q", frames, got, err, text)
		}
		back, err := Read(text)
		if err != api.OK || len(back) != len(frames) || len(back) > 0 && !reflect.DeepEqual(back, frames) {
			t.Errorf("Read(%q) = %v, %d, want %v", text, back, err, frames)
		}
	}
}

// TestP143Errors checks what is no text of frames, and which frames have none.
func TestP143Errors(t *testing.T) {
	for _, text := range []string{
		"\n", " \n", "0 0 0", "0\n", "0 0\n", "0 0 \n", "0 0 0 \n", " 0 0 0\n", "0  0 0\n", "0 0 0  1\n", "0 0 0\n\n", "0 0 0\n0 0 0", "\n0 0 0\n", "00 0 0\n", "+1 0 0\n", "-0 0 0\n", "0 0 x\n", "0 0 unit\n", "x 0 0\n", "0 0 0 x\n", "0 0 0 01\n", "0 0 0\tunit\n", "0 0 0\r\n", "0 0 0 Unit\n", "0 0 0 1000000000001\n",
		"0 0 0 \"\n", "0 0 0 \"a\n", "0 0 0 a\"\n", "0 0 0 \"a\"b\n", "0 0 0 \"a\" \"\n", "0 0 0 \"a\"\"b\"\n", `0 0 0 "\a"` + "\n", `0 0 0 "\"` + "\n", `0 0 0 \ 1` + "\n", "0 0 0 chan#0\n", "0 0 0 chan# 1\n", "9223372036854775808 0 0\n", "0 0 0 \"" + strings.Repeat("a", api.MaxText+1) + "\"\n", "\x00", "0 0 0 \"\x80\"\n", "0 0 0 \"a\nb\"\n",
	} {
		if frames, err := Read(text); frames != nil || err != api.ErrArg {
			t.Errorf("Read(%q) = %v, %d", text, frames, err)
		}
	}
	for _, v := range []api.Value{{N: 1}, {Kind: 7}, {Kind: -1}, {Kind: api.KText, S: "\n"}, {Kind: api.KInt, N: api.MaxInt + 1}, {Kind: api.KChan}} {
		for at := range 3 {
			frames := []api.Frame{{Slots: make([]api.Value, 3)}, {Slots: make([]api.Value, 3)}}
			frames[1].Slots[at] = v
			if text, err := Text(frames); text != "" || err != api.ErrArg {
				t.Errorf("Text(%v) = %q, %d", frames, text, err)
			}
		}
	}
}

// TestP143Long checks many and long frames.
func TestP143Long(t *testing.T) {
	frames := slices.Repeat([]api.Frame{{Fn: 1, Slots: slices.Repeat(samples(), 100)}}, 50)
	text, err := Text(frames)
	if back, other := Read(text); err != api.OK || other != api.OK || !reflect.DeepEqual(back, frames) {
		t.Errorf("Text: %d, Read: %d, %d frames", err, other, len(back))
	}
	if back, err := Read(strings.Repeat("x", 1<<20)); back != nil || err != api.ErrArg {
		t.Errorf("Read: %d", err)
	}
}

// TestP144Read checks that going on with frames that were written and read is the same.
func TestP144Read(t *testing.T) {
	text, err := Text(begun(t))
	frames, other := Read(text)
	if err != api.OK || other != api.OK || !Good(calling(t), frames) || !reflect.DeepEqual(frames, begun(t)) {
		t.Errorf("Text = %q, %d, Read = %v, %d", text, err, frames, other)
	}
	if after, turn, err := Go(calling(t), frames, api.Answer{Fault: throw("x")}); len(after) != 0 || !reflect.DeepEqual(turn, failed(throw("x"))) || err != api.OK {
		t.Errorf("Go = %v, %v, %d", after, turn, err)
	}
}
