package names

import (
	"reflect"
	"slices"
	"strings"
	"testing"

	"seedbed/api"
	"seedbed/lexis"
	"seedbed/syntax"
)

// everything has each kind of statement and case, and can be resolved.
const everything = `fn main() { let a = f(1, true, "x"); let b = spawn g(a, a); let c = await b; let d = chan 3 drop old; while true { let k = receive d else break; emit k; continue; } let h = lock 1; let i = now; let j = i;
	a = "y"; g2(); spawn g2(); await b; receive d; send d, j; close d; sleep -j + 1; yield; emit a; cancel b; return; }
fn f(x int, y bool, z text) text { if x < 1 { let w = 1; emit w; } else if y { return "a"; } else { let w = z; emit w; } while !y { y = true; break; } scope supervised within x { let w = 1; } shield { throw z; } return z; }
fn g(x text, y text) { try { g2(); } catch k { emit k; } finally { emit x; } use r = 1 { emit r + 1; } hold y { emit 1; }
	select { receive v from x { emit v; } send x, 1 { let v = 2; emit v; } after 2 { yield; } else { let v = 3; } } each v from q(x) buffer 3 drop new { emit v; } }
fn g2() { }
fn q(x text) flow { produce 1; each v from q(x) { produce v; } }
`

// spoilt visits each number and each string of a program: it gives it another value while it is visited.
func spoilt(v reflect.Value, path string, visit func(path string)) {
	switch v.Kind() {
	case reflect.Struct:
		for i := range v.NumField() {
			spoilt(v.Field(i), path+"."+v.Type().Field(i).Name, visit)
		}
	case reflect.Slice:
		for i := range v.Len() {
			spoilt(v.Index(i), path+"."+string(rune('0'+i)), visit)
		}
	case reflect.Int:
		old := v.Int()
		for _, n := range []int64{-1, 1 << 62} {
			v.SetInt(n)
			visit(path)
		}
		v.SetInt(old)
	case reflect.String:
		old := v.String()
		v.SetString("\n")
		visit(path)
		v.SetString(old)
	}
}

func isSlot(path string) bool {
	return strings.HasSuffix(path, ".Slot") || strings.HasSuffix(path, ".Index") || strings.HasSuffix(path, ".Vars")
}

// TestP41Misfits checks programs that are not well formed: each of their fields with another value. Only Resolve minds slots.
func TestP41Misfits(t *testing.T) {
	p, bare := parsed(t, everything), parsed(t, everything)
	slots := 0
	spoilt(reflect.ValueOf(&p).Elem(), "", func(path string) {
		if q, err := Resolve(p); len(q.Funcs) != 0 || err != api.ErrArg {
			t.Errorf("Resolve with another %s = %v, %d", path, q, err)
		}
		if !isSlot(path) {
			wantMisfit(t, path, p)
			return
		}
		slots++
		if q, err := Strip(p); err != api.OK || !syntax.Same(q, bare) {
			t.Errorf("Strip with another %s = %v, %d", path, q, err)
		}
	})
	if slots < 300 {
		t.Errorf("only %d slots", slots)
	}
	for what, p := range map[string]api.Program{
		"nothing": {}, "no name": {Funcs: []api.Func{{}}}, "a word": {Funcs: []api.Func{{Name: "emit"}}}, "two mains and nothing": {Funcs: []api.Func{{Name: "main"}, {Name: "main"}, {}}},
		"an empty statement": {Funcs: []api.Func{{Name: "main", Body: []api.Stmt{{}}}}}, "many functions": {Funcs: make([]api.Func, 1<<20)},
	} {
		wantMisfit(t, what, p)
	}
}

func wantMisfit(t *testing.T, what string, p api.Program) {
	t.Helper()
	if q, err := Strip(p); len(q.Funcs) != 0 || err != api.ErrArg {
		t.Errorf("Strip of %s = %v, %d", what, q, err)
	}
	wantError(t, p, api.ErrArg)
}

// TestP41AnyArguments checks what contains itself or is far too large.
func TestP41AnyArguments(t *testing.T) {
	ring := []api.Expr{{Op: api.EAdd, Slot: 1}, {Op: api.EAdd, Slot: 2}}
	ring[0].Args, ring[1].Args = ring, ring
	body := []api.Stmt{{Op: api.SShield, Slot: 1}, {Op: api.SShield, Slot: 2}}
	body[0].Body, body[1].Body = body, body
	for what, s := range map[string]api.Stmt{
		"a ring": {Op: api.SEmit, Args: ring}, "a ring of statements": body[0], "many arguments": {Op: api.SCall, Fn: "main", Args: make([]api.Expr, 1<<20)},
	} {
		wantMisfit(t, what, api.Program{Funcs: []api.Func{{Name: "main", Body: []api.Stmt{s}}}})
	}
}

// TestP41Limits checks MaxDepth and MaxNodes, at the limit and one beyond.
func TestP41Limits(t *testing.T) {
	deep := api.Stmt{Op: api.SLet, Name: "x", Args: []api.Expr{{Op: api.EInt}}}
	for range api.MaxDepth - 2 {
		deep = api.Stmt{Op: api.SShield, Body: []api.Stmt{deep}}
	}
	program := func(list ...api.Stmt) api.Program {
		return api.Program{Funcs: []api.Func{{Name: "main", Body: list}}}
	}
	many := slices.Repeat([]api.Stmt{{Op: api.SYield}}, api.MaxNodes-1)
	for _, p := range []api.Program{program(deep), program(many...)} {
		if _, err := Resolve(p); err != api.OK {
			t.Errorf("Resolve at the limit: %d", err)
		}
		if q, err := Strip(p); err != api.OK || !syntax.Same(p, q) {
			t.Errorf("Strip at the limit: %d", err)
		}
	}
	wantMisfit(t, "too deep", program(api.Stmt{Op: api.SShield, Body: []api.Stmt{deep}}))
	wantMisfit(t, "too many nodes", program(append(many, many[0])...))
}

// TestP42Strip checks that no slot is left.
func TestP42Strip(t *testing.T) {
	p, bare := parsed(t, everything), parsed(t, everything)
	q, err := Strip(p)
	if err != api.OK || !syntax.Same(q, bare) {
		t.Errorf("Strip = %v, %d", q, err)
	}
	q, err = Resolve(p)
	if err != api.OK || syntax.Same(q, bare) {
		t.Errorf("Resolve = %v, %d", q, err)
	}
	if r, err := Strip(q); err != api.OK || !syntax.Same(r, bare) {
		t.Errorf("Strip of Resolve = %v, %d", r, err)
	}
	wrong := parsed(t, "fn f() { emit x; emit x; break; }")
	if r, err := Strip(wrong); err != api.OK || !syntax.Same(r, wrong) {
		t.Errorf("Strip of what cannot be resolved = %v, %d", r, err)
	}
}

// TestP42Vars checks Vars, with and without slots, and its errors.
func TestP42Vars(t *testing.T) {
	p := parsed(t, everything)
	q, _ := Resolve(p)
	for fn, want := range []string{"a b c d k h i j", "x y z w w w", "x y k r v v v v", "", "x v"} {
		for _, r := range []api.Program{p, q} {
			if got, err := Vars(r, fn); strings.Join(got, " ") != want || err != api.OK {
				t.Errorf("Vars(%d) = %v, %d, want %s", fn, got, err, want)
			}
		}
	}
	for _, fn := range []int{-1, 5, -1 << 63, 1<<63 - 1} {
		if got, err := Vars(p, fn); len(got) != 0 || err != api.ErrArg {
			t.Errorf("Vars(%d) = %v, %d", fn, got, err)
		}
	}
}

// TestP42Index checks Index, with and without slots, and its errors.
func TestP42Index(t *testing.T) {
	p := parsed(t, everything)
	q, _ := Resolve(p)
	for want, name := range []string{"main", "f", "g", "g2", "q"} {
		for _, r := range []api.Program{p, q} {
			if got, err := Index(r, name); got != want || err != api.OK {
				t.Errorf("Index(%s) = %d, %d", name, got, err)
			}
		}
	}
	for _, name := range []string{"", "a", "let", "mai", "mainn", " main", strings.Repeat("x", 1<<16)} {
		if got, err := Index(p, name); got != 0 || err != api.ErrNone {
			t.Errorf("Index(%q) = %d, %d", name, got, err)
		}
	}
}

// TestP43Free checks Free and its errors.
func TestP43Free(t *testing.T) {
	p := parsed(t, "fn main() { let x0 = 1; if true { let x1 = x0; let y1 = 1; } let x2 = 2; let x4 = 4; let z = 1; let x03 = 1; } fn f(a0 int, b1 int) { let a1 = 1; } fn g() { "+strings.ReplaceAll(lets(api.MaxVars), "let v", "let w")+"}")
	q, _ := Resolve(p)
	for _, c := range []struct {
		fn         int
		base, want string
	}{
		{0, "x", "x3"}, {0, "y", "y0"}, {0, "z", "z0"}, {0, "a", "a0"}, {0, "x0", "x00"}, {0, "f", "f0"}, {0, "let", "let0"}, {0, "abcdefghij", "abcdefghij0"},
		{1, "a", "a2"}, {1, "b", "b0"}, {1, "x", "x0"}, {2, "w", "w32"}, {2, "w1", "w110"}, {2, "w3", "w32"},
	} {
		for _, r := range []api.Program{p, q} {
			if got, err := Free(r, c.fn, c.base); got != c.want || err != api.OK {
				t.Errorf("Free(%d, %s) = %q, %d, want %s", c.fn, c.base, got, err, c.want)
			}
		}
	}
	for _, base := range []string{"", "1", "X", "x y", "x\n", "abcdefghijk", "-", strings.Repeat("x", 1<<16)} {
		if got, err := Free(p, 0, base); got != "" || err != api.ErrArg {
			t.Errorf("Free(%q) = %q, %d", base, got, err)
		}
	}
	for _, fn := range []int{-1, 3} {
		if got, err := Free(p, fn, "x"); got != "" || err != api.ErrArg {
			t.Errorf("Free in %d = %q, %d", fn, got, err)
		}
	}
}

// TestP43Rename checks that Rename changes each mention of the variables of a name, in one function alone.
func TestP43Rename(t *testing.T) {
	p := parsed(t, everything)
	q, _ := Resolve(p)
	letters := map[int]string{0: "abcdkhij", 1: "xyzw", 2: "xykrv", 4: "xv"}
	for fn, names := range letters {
		for _, name := range strings.Split(names, "") {
			want := renamedText(everything, fn, name, "new0")
			for _, r := range []api.Program{p, q} {
				got, err := Rename(r, fn, name, "new0")
				if err != api.OK || !syntax.Same(got, parsed(t, want)) {
					t.Errorf("Rename(%d, %s): %v, %d, want %s", fn, name, got, err, want)
				}
			}
		}
	}
	quotes := parsed(t, "fn main() { let x = 1; emit \"x\" + \"y\"; x = x; }")
	if got, err := Rename(quotes, 0, "x", "y"); err != api.OK || !syntax.Same(got, parsed(t, "fn main() { let y = 1; emit \"x\" + \"y\"; y = y; }")) {
		t.Errorf("Rename beside texts = %v, %d", got, err)
	}
	if got, err := Rename(p, 1, "x", "f"); err != api.OK || got.Funcs[1].Name != "f" || got.Funcs[1].Params[0].Name != "f" {
		t.Errorf("Rename to the name of a function = %v, %d", got, err)
	}
}

// renamedText renames in a text, of whose functions each one begins a line.
func renamedText(source string, fn int, from, to string) string {
	parts := strings.Split(source, "\nfn ")
	tokens, _, _ := lexis.Tokens(parts[fn])
	for i, k := range tokens {
		if k.Kind == api.TName && k.Text == from && tokens[i+1].Text != "(" {
			tokens[i].Text = to
		}
	}
	parts[fn], _ = lexis.Join(tokens)
	return strings.Join(parts, "\nfn ")
}

// TestP43RenameErrors checks the errors of Rename, in their order.
func TestP43RenameErrors(t *testing.T) {
	p := parsed(t, "fn main() { let x = 1; if true { let y = x; } } fn f(z int) { }")
	for _, c := range []struct {
		fn       int
		from, to string
		want     api.Errno
	}{
		{0, "x", "z", api.OK}, {0, "y", "abcdefghijkl", api.OK}, {1, "z", "x", api.OK}, {0, "x", "f", api.OK}, {0, "x", "main", api.OK},
		{0, "x", "", api.ErrArg}, {0, "x", "let", api.ErrArg}, {0, "x", "1", api.ErrArg}, {0, "x", "X", api.ErrArg}, {0, "x", "abcdefghijklm", api.ErrArg}, {0, "z", "let", api.ErrArg}, {0, "", "", api.ErrArg}, {-1, "x", "z", api.ErrArg}, {2, "x", "z", api.ErrArg},
		{0, "z", "a", api.ErrNone}, {0, "z", "x", api.ErrNone}, {0, "z", "z", api.ErrNone}, {0, "", "a", api.ErrNone}, {0, "let", "a", api.ErrNone}, {1, "x", "a", api.ErrNone}, {0, "main", "a", api.ErrNone},
		{0, "x", "y", api.ErrTwice}, {0, "y", "x", api.ErrTwice}, {0, "x", "x", api.ErrTwice}, {1, "z", "z", api.ErrTwice},
	} {
		got, err := Rename(p, c.fn, c.from, c.to)
		if err != c.want || (err == api.OK) != (len(got.Funcs) == 2) {
			t.Errorf("Rename(%d, %s, %s) = %v, %d, want %d", c.fn, c.from, c.to, got, err, c.want)
		}
	}
}

// TestP42Memory checks that arguments are not changed, and that results share no memory with them, nor with each other.
func TestP42Memory(t *testing.T) {
	p, want := parsed(t, everything), parsed(t, everything)
	resolved, _ := Resolve(p)
	calls := map[string]func(api.Program) (api.Program, api.Errno){
		"Resolve": Resolve, "Strip": Strip,
		"Rename": func(p api.Program) (api.Program, api.Errno) { return Rename(p, 0, "a", "z") },
	}
	for what, call := range calls {
		q, err := call(p)
		if err != api.OK || !syntax.Same(p, want) {
			t.Errorf("%s: %d, or the argument is changed", what, err)
		}
		spoilt(reflect.ValueOf(&q).Elem(), "", func(path string) {
			if !syntax.Same(p, want) {
				t.Fatalf("%s: %s is shared", what, path)
			}
		})
		if again, err := call(p); err != api.OK || !syntax.Same(again, q) {
			t.Errorf("%s again: %d, or another program", what, err)
		}
	}
	if again, _ := Resolve(p); !syntax.Same(again, resolved) {
		t.Error("Resolve is changed by other calls")
	}
	vars, _ := Vars(p, 0)
	vars[0] = "changed"
	if again, _ := Vars(p, 0); again[0] != "a" || !syntax.Same(p, want) {
		t.Error("Vars shares memory")
	}
}
