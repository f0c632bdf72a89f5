package pack

import (
	"encoding/binary"
	"hash/adler32"
	"math"
	"slices"
	"strings"
	"testing"

	"seedbed/api"
	"seedbed/code"
)

// The chapter's numbers and ints are varints, and its sum is that of Adler.

func number(n int) string { return string(binary.AppendUvarint(nil, uint64(n))) }

func integer(n int) string { return string(binary.AppendVarint(nil, int64(n))) }

func summed(out string) string {
	return out + string(binary.BigEndian.AppendUint32(nil, adler32.Checksum([]byte(out))))
}

// written is the packed form of a code.
func written(c api.Code) string {
	var out strings.Builder
	write := func(parts ...string) { out.WriteString(strings.Join(parts, "")) }
	write("sb1", number(len(c.Funcs)))
	for _, f := range c.Funcs {
		write(number(len(f.Name)), f.Name, number(f.Params), number(f.Slots), number(len(f.Code)))
		for _, in := range f.Code {
			write(string([]byte{byte(in.Op)}), integer(in.A), integer(in.B), integer(in.C))
			write(string([]byte{byte(in.V.Kind)}), integer(in.V.N), number(len(in.V.S)), in.V.S, number(len(in.L)))
			for _, n := range in.L {
				write(integer(n))
			}
		}
		write(number(len(f.Guards)))
		for _, g := range f.Guards {
			write(number(g.From), number(g.To), number(g.At), number(g.Slot))
		}
	}
	return summed(out.String())
}

// sample is a code with all kinds of fields.
func sample() api.Code {
	value := func(v api.Value) api.Instr { return api.Instr{Op: api.IConst, A: 199, V: v} }
	f := api.FnCode{Name: "main", Params: 1, Slots: 200, Guards: []api.Guard{{From: 0, To: 12, At: 3, Slot: 198}, {From: 2, To: 3, At: 11}}, Code: []api.Instr{
		value(api.Value{}), value(api.Value{Kind: api.KInt, N: -5}), value(api.Value{Kind: api.KInt, N: api.MaxInt}), value(api.Value{Kind: api.KInt, N: -api.MaxInt}), value(api.Value{Kind: api.KBool, N: 1}), value(api.Value{Kind: api.KText, S: strings.Repeat("a", api.MaxText)}), value(api.Value{Kind: api.KText}), value(api.Value{Kind: api.KLock, N: api.MaxInt}),
		{Op: api.ICall, A: -1, B: 1, L: []int{64, 199}}, {Op: api.IAsk, A: -1, B: api.ASelect, C: 1, L: []int{128}}, {Op: api.ISwitch, A: 63, L: []int{0, 11, 3}}, {Op: api.IReturn, A: -1},
	}}
	g := api.FnCode{Name: "abcdefghijk1", Params: 2, Slots: 2}
	for range 3000 {
		g.Code = append(g.Code, api.Instr{Op: api.IMove, A: 1})
	}
	g.Code = append(g.Code, api.Instr{Op: api.IJump, A: 2999})
	return api.Code{Funcs: []api.FnCode{f, g}}
}

// small is the shortest code.
func small() api.Code {
	return api.Code{Funcs: []api.FnCode{{Name: "f", Code: []api.Instr{{Op: api.IReturn, A: -1}}}}}
}

// wantPacked checks the packed form of a code, and that it is unpacked.
func wantPacked(t *testing.T, what string, c api.Code, want string) {
	t.Helper()
	got, err := Pack(c)
	if got != want || err != api.OK {
		t.Errorf("Pack of %s = %q, %d, want %q", what, got, err, want)
	}
	if d, err := Unpack(want); err != api.OK || !code.Same(d, c) {
		t.Errorf("Unpack of %s = %v, %d", what, d, err)
	}
	if n, err := Damage(want); n != 0 || err != api.OK {
		t.Errorf("Damage of %s = %d, %d", what, n, err)
	}
}

// TestP131Packed checks packed forms.
func TestP131Packed(t *testing.T) {
	wantPacked(t, "the shortest one", small(), "sb1\x01\x01f\x00\x00\x01\x08\x01\x00\x00\x00\x00\x00\x00\x00"+"\x17_\x01y")
	wantPacked(t, "the shortest one", small(), written(small()))
	wantPacked(t, "a sample", sample(), written(sample()))
	two := small()
	two.Funcs = append(two.Funcs, small().Funcs...)
	two.Funcs[1].Name, two.Funcs[1].Params, two.Funcs[1].Slots = "g", 5, 150
	wantPacked(t, "two", two, written(two))
}

// long is a code whose lists have so many numbers.
func long(more int) api.Code {
	c := small()
	f := &c.Funcs[0]
	f.Slots = 2
	for more > 0 {
		n := min(more, 3900)
		f.Code = append(f.Code, api.Instr{Op: api.ISwitch, L: make([]int, n)})
		more -= n
	}
	return c
}

// sized is a code whose packed form has so many bytes.
func sized(t *testing.T, size int) api.Code {
	t.Helper()
	for more := size - 300; more < size; more++ {
		if c := long(more); len(written(c)) == size {
			return c
		}
	}
	t.Fatalf("no code has %d bytes", size)
	return api.Code{}
}

// TestP131Full checks how many bytes there can be.
func TestP131Full(t *testing.T) {
	most := sized(t, api.MaxBytes)
	wantPacked(t, "the longest one", most, written(most))
	c := sized(t, api.MaxBytes+1)
	if err := code.Check(c); err != api.OK {
		t.Fatalf("Check: %d", err)
	}
	if bytes, err := Pack(c); bytes != "" || err != api.ErrFull {
		t.Errorf("Pack: %d bytes, %d", len(bytes), err)
	}
	wantNone(t, "a long one", written(c))
	if n, err := Damage(written(c)); n != 0 || err != api.ErrFull {
		t.Errorf("Damage = %d, %d", n, err)
	}
	if n, err := Damage(strings.Repeat("x", api.MaxBytes+1)); n != 0 || err != api.ErrFull {
		t.Errorf("Damage = %d, %d", n, err)
	}
	if n, err := Damage(strings.Repeat("x", api.MaxBytes)); n != 1 || err != api.OK {
		t.Errorf("Damage = %d, %d", n, err)
	}
	for what, c := range map[string]api.Code{"nothing": {}, "no instruction": {Funcs: []api.FnCode{{Name: "f"}}}, "a long one that is not valid": {Funcs: append(c.Funcs, api.FnCode{})}} {
		if bytes, err := Pack(c); bytes != "" || err != api.ErrCode {
			t.Errorf("Pack of %s: %q, %d", what, bytes, err)
		}
	}
}

func wantNone(t *testing.T, what, bytes string) {
	t.Helper()
	if c, err := Unpack(bytes); !code.Same(c, api.Code{}) || err != api.ErrBytes {
		t.Errorf("Unpack of %s = %v, %d", what, c, err)
	}
}

// wantDamage checks what is no packed code.
func wantDamage(t *testing.T, what, bytes string, want int) {
	t.Helper()
	wantNone(t, what, bytes)
	if n, err := Damage(bytes); n != want || err != api.OK {
		t.Errorf("Damage of %s = %d, %d, want %d", what, n, err, want)
	}
}

// TestP133Damage checks what Damage tells, and that what is damaged is not unpacked.
func TestP133Damage(t *testing.T) {
	whole := written(small())
	inner := whole[:len(whole)-4]
	for n := range 7 {
		wantDamage(t, "some bytes", whole[:n], 1)
	}
	wantDamage(t, "nothing but a sum", summed(""), 1)
	wantDamage(t, "no beginning", summed("sb2"+inner[3:]), 1)
	wantDamage(t, "another sign", summed("Sb1"+inner[3:]), 1)
	wantDamage(t, "a beginning", "sb1", 1)
	wantDamage(t, "no sum", inner, 2)
	wantDamage(t, "another sum", inner+"\x00\x00\x00\x00", 2)
	wantDamage(t, "a byte behind it", whole+"\x00", 2)
	wantDamage(t, "a byte less", whole[:len(whole)-1], 2)
	wantDamage(t, "a beginning with a sum", summed("sb1"), 3)
	wantDamage(t, "no functions", summed("sb1\x00"), 3)
	wantDamage(t, "a function that is not there", summed("sb1\x01"), 3)
	for n := 3; n < len(inner); n++ {
		wantDamage(t, "less bytes with a sum", summed(inner[:n]), 3)
	}
	wantDamage(t, "a byte behind it with a sum", summed(inner+"\x00"), 3)
	wantDamage(t, "a code twice", summed(inner+inner[3:]), 3)
}

// TestP131Wrong checks bytes with the right sum that are those of no valid code.
func TestP131Wrong(t *testing.T) {
	huge := number(1 << 60)
	for what, inner := range map[string]string{
		"a number with a 0 behind it": "sb1\x81\x00\x01f\x00\x00\x01\x08\x01\x00\x00\x00\x00\x00\x00\x00", "a length with a 0 behind it": "sb1\x01\x81\x00f\x00\x00\x01\x08\x01\x00\x00\x00\x00\x00\x00\x00", "an int with a 0 behind it": "sb1\x01\x01f\x00\x00\x01\x08\x81\x00\x00\x00\x00\x00\x00\x00\x00",
		"very many functions": "sb1" + huge, "too many functions": "sb1" + number(1<<60+1), "a long name": "sb1\x01" + huge + "f", "many instructions": "sb1\x01\x01f\x00\x00" + huge + "\x08\x01", "a long list": "sb1\x01\x01f\x00\x00\x01\x0c\x00\x00\x00\x00\x00\x00" + huge + "\x00\x00", "many guards": "sb1\x01\x01f\x00\x00\x01\x08\x01\x00\x00\x00\x00\x00\x00" + huge, "a long text": "sb1\x01\x01f\x00\x00\x01\x08\x01\x00\x00\x00\x00" + huge, "numbers without end": "sb1" + strings.Repeat("\xff", 100),
		"another instruction": "sb1\x01\x01f\x00\x00\x01\x0f\x01\x00\x00\x00\x00\x00\x00\x00", "no instruction": "sb1\x01\x01f\x00\x00\x01\x00\x01\x00\x00\x00\x00\x00\x00\x00", "another kind": "sb1\x01\x01f\x00\x00\x01\x08\x01\x00\x00\x07\x00\x00\x00\x00", "a slot that is not there": "sb1\x01\x01f\x00\x00\x01\x08\x00\x00\x00\x00\x00\x00\x00\x00", "another name": "sb1\x01\x01F\x00\x00\x01\x08\x01\x00\x00\x00\x00\x00\x00\x00", "an int far away": "sb1\x01\x01f\x00\x00\x01\x08" + huge + "\x00\x00\x00\x00\x00\x00\x00",
	} {
		wantDamage(t, what, summed(inner), 3)
	}
}

// TestP131Sum checks sums, also of many bytes.
func TestP131Sum(t *testing.T) {
	for bytes, want := range map[string]int{"": 1, "a": 98<<16 + 98, "\x00": 1<<16 + 1, "\xff": 256<<16 + 256} {
		if got := Sum(bytes); got != want {
			t.Errorf("Sum(%q) = %d, want %d", bytes, got, want)
		}
	}
	for n := range 200 {
		bytes := strings.Repeat(string([]byte{byte(n), 255, byte(3 * n)}), n*n)
		if got := Sum(bytes); got != int(adler32.Checksum([]byte(bytes))) {
			t.Errorf("Sum of %d bytes = %d", len(bytes), got)
		}
	}
}

// TestP132Numbers checks numbers and their bytes, whatever stands behind them.
func TestP132Numbers(t *testing.T) {
	list := []int{0, 1, 2, 126, 127, 128, 129, 255, 256, 300, 16383, 16384, 1<<21 - 1, 1 << 21, api.MaxInt, 1<<56 - 1, 1 << 56, 1<<60 - 1, 1 << 60, 1<<60 + 1, 1<<61 + 5, 1<<62 - 1, 1 << 62, math.MaxInt}
	for n := range 2000 {
		list = append(list, n, n*n*n*n*n)
	}
	for _, n := range list {
		bytes, err := Number(n)
		if bytes != number(n) || err != api.OK {
			t.Errorf("Number(%d) = %q, %d", n, bytes, err)
		}
		for _, rest := range []string{"", "\x00", "\x80", "\xff\xff", "sb1"} {
			got, size, err := ReadNumber(bytes + rest)
			switch {
			case n > 1<<60 && (got != 0 || size != 0 || err != api.ErrBytes), n <= 1<<60 && (got != n || size != len(bytes) || err != api.OK):
				t.Errorf("ReadNumber(%q) = %d, %d, %d", bytes+rest, got, size, err)
			}
		}
		for at := range len(bytes) {
			if got, size, err := ReadNumber(bytes[:at]); got != 0 || size != 0 || err != api.ErrBytes {
				t.Errorf("ReadNumber(%q) = %d, %d, %d", bytes[:at], got, size, err)
			}
		}
	}
	if bytes, _ := Number(300); bytes != "\xac\x02" {
		t.Errorf("Number(300) = %q", bytes)
	}
	for _, n := range []int{-1, -2, -300, math.MinInt} {
		if bytes, err := Number(n); bytes != "" || err != api.ErrCode {
			t.Errorf("Number(%d) = %q, %d", n, bytes, err)
		}
	}
}

// TestP132None checks bytes that begin with no number.
func TestP132None(t *testing.T) {
	for _, bytes := range []string{"", "\x80", "\x80\x00", "\xff\x00", "\x80\x80\x00\x05", "\xff\xff", strings.Repeat("\xff", 8), strings.Repeat("\xff", 9), strings.Repeat("\xff", 9) + "\x01", strings.Repeat("\x80", 9) + "\x01", strings.Repeat("\xff", 8) + "\x7f", strings.Repeat("\x80", 8) + "\x11", strings.Repeat("\x80", 63) + "\x01", strings.Repeat("\xff", 1<<20)} {
		if n, size, err := ReadNumber(bytes); n != 0 || size != 0 || err != api.ErrBytes {
			t.Errorf("ReadNumber(%.20q) = %d, %d, %d", bytes, n, size, err)
		}
	}
}

// TestP134Changed checks that no packed code of which a byte is changed is one.
func TestP134Changed(t *testing.T) {
	c := sample()
	c.Funcs = c.Funcs[:1]
	c.Funcs[0].Code[8] = api.Instr{Op: api.IMove}
	whole := []byte(written(c))
	for at := range whole {
		for add := range 255 {
			changed := slices.Clone(whole)
			changed[at] += byte(add + 1)
			if _, err := Unpack(string(changed)); err != api.ErrBytes {
				t.Fatalf("Unpack with another byte %d: %d", at, err)
			}
			if n, err := Damage(string(changed)); n < 1 || n > 2 || err != api.OK {
				t.Fatalf("Damage with another byte %d: %d, %d", at, n, err)
			}
		}
	}
}

// TestP134Only checks that what is unpacked is packed as it was, whatever stands in it.
func TestP134Only(t *testing.T) {
	inner := written(small())
	inner = inner[:len(inner)-4]
	codes := 0
	for at := 3; at < len(inner); at++ {
		for b := range 256 {
			for _, insert := range []string{"", string([]byte{byte(b)})} {
				changed := summed(inner[:at] + string([]byte{byte(b)}) + insert + inner[at+1:])
				c, err := Unpack(changed)
				if err != api.OK {
					continue
				}
				codes++
				if again, err := Pack(c); again != changed || err != api.OK {
					t.Errorf("Pack of Unpack of %q = %q, %d", changed, again, err)
				}
			}
		}
	}
	if codes < 100 {
		t.Errorf("only %d are codes", codes)
	}
}

// TestP131Effects checks that the argument of Pack is not changed.
func TestP131Effects(t *testing.T) {
	c := sample()
	if _, err := Pack(c); err != api.OK || !code.Same(c, sample()) {
		t.Errorf("Pack: %d, or it changes its argument", err)
	}
}
