package instr

import (
	"slices"
	"strconv"
	"strings"
	"testing"

	"seedbed/api"
)

// fields writes the numbers in an instruction with their roles, up to most of them.
func fields(in api.Instr, most int) string {
	letters := "0smdtup" // a slot, maybe one, two, one that is set, maybe one that is, a place
	var list []string
	for field, role := range Table().Fields(&in) {
		if len(list) == most {
			break
		}
		letter := "."
		if int(role) < len(letters) {
			letter = letters[role : role+1]
		}
		list = append(list, letter+strconv.Itoa(*field))
	}
	return strings.Join(list, " ")
}

// TestFields checks what the numbers in instructions stand for, and that a visit can be left anywhere.
func TestFields(t *testing.T) {
	for _, x := range []struct {
		in   api.Instr
		want string
	}{
		{api.Instr{Op: api.IConst, A: 1}, "t1 00 00"}, {api.Instr{Op: api.IMove, A: 1, B: 2}, "t1 s2 00"}, {api.Instr{Op: api.IUnary, A: 1, B: 5, C: 2}, "t1 .5 s2"}, {api.Instr{Op: api.IBinary, A: 1, B: 9, C: 2, L: []int{3}}, "t1 .9 s2 s3"}, {api.Instr{Op: api.IJump, A: 4}, "p4 00 00"}, {api.Instr{Op: api.IFalse, A: 1, B: 4}, "s1 p4 00"}, {api.Instr{Op: api.ICall, A: -1, B: 2, L: []int{3, 4}}, "u-1 .2 00 s3 s4"}, {api.Instr{Op: api.IReturn, A: -1}, "m-1 00 00"}, {api.Instr{Op: api.IThrow, A: 1}, "s1 00 00"}, {api.Instr{Op: api.ISwitch, A: 1, L: []int{5, 6}}, "s1 00 00 p5 p6"}, {api.Instr{Op: api.IFault, A: 1, B: 4}, "s1 p4 00"}, {api.Instr{Op: api.IRaise, A: 1}, "d1 00 00"},
		{api.Instr{Op: api.IArm, A: 2, L: []int{3, 4}}, ".2 00 00 s3 s4"}, {api.Instr{Op: api.IAsk, A: 1, B: api.ASend, L: []int{3, 4}}, "u1 .9 00 s3 s4"}, {api.Instr{Op: api.IAsk, A: 1, B: api.ASpawn, C: 2, L: []int{3}}, "u1 .5 .2 s3"}, {api.Instr{Op: api.IAsk, A: 1, B: api.ASelect, C: 1, L: []int{3}}, "u1 .15 .1 t3"}, {api.Instr{Op: api.IAsk, A: -1, B: api.ALeave, L: []int{3}}, "u-1 .17 00 d3"}, {api.Instr{Op: api.IAsk, A: -1, B: api.AOpen, C: 1, L: []int{3}}, "u-1 .16 .1 s3"}, {api.Instr{Op: api.IAsk, A: -1, B: api.AChan, C: 2, L: []int{3}}, "u-1 .8 .2 s3"},
	} {
		words := strings.Fields(x.want)
		for most := range len(words) + 1 {
			if got := fields(x.in, most); got != strings.Join(words[:most], " ") {
				t.Errorf("%v: %s, want %s", x.in, got, x.want)
			}
		}
	}
}

// TestChanges checks that instructions can be changed through their fields.
func TestChanges(t *testing.T) {
	in := api.Instr{Op: api.ISwitch, A: 1, L: []int{5, 6}}
	for field, role := range Table().Fields(&in) {
		if role == Place || role == Slot {
			*field += 10
		}
	}
	if in.A != 11 || !slices.Equal(in.L, []int{15, 16}) {
		t.Errorf("the instruction is %v", in)
	}
}

// TestNext checks which places follow, and that a visit can be left anywhere.
func TestNext(t *testing.T) {
	list := []api.Instr{{Op: api.IMove}, {Op: api.IFalse, B: 3}, {Op: api.ISwitch, L: []int{0, 2}}, {Op: api.IFault, B: 1}, {Op: api.IJump, A: 2}, {Op: api.IReturn}, {Op: api.IRaise}, {Op: api.IThrow}}
	want := [][]int{{1}, {2, 3}, {0, 2}, {4, 1}, {2}, nil, nil, nil}
	for at, all := range want {
		for most := range len(all) + 1 {
			var got []int
			for next := range Table().Next(api.FnCode{Code: list}, at) {
				if len(got) == most {
					break
				}
				got = append(got, next)
			}
			if !slices.Equal(got, all[:most]) {
				t.Errorf("%v follow %d, want %v", got, at, all)
			}
		}
	}
}

// TestGuards checks to which guard a raise leads, and where there can be one.
func TestGuards(t *testing.T) {
	f := api.FnCode{Code: []api.Instr{{Op: api.IThrow}, {Op: api.IAsk}, {Op: api.IMove}, {Op: api.ICall}, {Op: api.IReturn}}, Guards: []api.Guard{{From: 1, To: 3}, {From: 0, To: 2}, {From: 2, To: 3}}}
	for at, want := range []int{1, 0, -1, -1, -1} {
		if got := Table().Guard(f, at); got != want {
			t.Errorf("Guard(%d) = %d, want %d", at, got, want)
		}
	}
	for from := range f.Code {
		for to := from; to <= len(f.Code); to++ {
			want := from < to && from < 2 || from < 4 && to > 3
			if got := Table().CanRaise(f.Code, from, to); got != want {
				t.Errorf("CanRaise from %d to %d is %t", from, to, got)
			}
		}
	}
}

// TestArms checks how many arms stand directly before a place.
func TestArms(t *testing.T) {
	list := []api.Instr{{Op: api.IArm}, {Op: api.IArm}, {Op: api.IAsk, B: api.ASelect}, {Op: api.IArm}, {Op: api.IMove}}
	for at, want := range []int{0, 1, 2, 0, 1} {
		if got := Arms(list, at); got != want {
			t.Errorf("Arms(%d) = %d, want %d", at, got, want)
		}
		if got := IsSelect(list[at]); got != (at == 2) {
			t.Errorf("IsSelect of %d is %t", at, got)
		}
	}
	if IsSelect(api.Instr{Op: api.IArm, B: api.ASelect}) || IsSelect(api.Instr{Op: api.IAsk, B: api.ASend}) {
		t.Error("IsSelect")
	}
}
