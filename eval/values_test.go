package eval

import (
	"math"
	"math/big"
	"strings"
	"testing"

	"seedbed/api"
)

// pool returns valid values of all kinds, and among them those at the ends of ranges.
func pool() []api.Value {
	list := []api.Value{{}, {Kind: api.KBool}, {Kind: api.KBool, N: 1}}
	for _, n := range []int{0, 1, 2, 3, 7, 10, 999999, 1000000, 1000001, 333333333333, 500000000000, 500000000001, api.MaxInt - 1, api.MaxInt} {
		list = append(list, api.Value{Kind: api.KInt, N: n}, api.Value{Kind: api.KInt, N: -n})
	}
	for _, s := range []string{"", "a", "ab", "b", "B", " ", "~", `"\`, strings.Repeat("a", 30), strings.Repeat("b", 31), strings.Repeat("c", 59), strings.Repeat("d", 60)} {
		list = append(list, api.Value{Kind: api.KText, S: s})
	}
	for kind := api.KChan; kind <= api.KLock; kind++ {
		list = append(list, api.Value{Kind: kind, N: 1}, api.Value{Kind: kind, N: 2}, api.Value{Kind: kind, N: api.MaxInt})
	}
	return list
}

// wrongValues returns values that are not valid.
func wrongValues() []api.Value {
	list := []api.Value{
		{Kind: -1}, {Kind: 7}, {Kind: math.MinInt}, {Kind: math.MaxInt}, {Kind: -1, N: 1}, {N: 1}, {N: -1}, {S: "a"},
		{Kind: api.KInt, N: api.MaxInt + 1}, {Kind: api.KInt, N: -api.MaxInt - 1}, {Kind: api.KInt, N: math.MinInt}, {Kind: api.KInt, N: math.MaxInt}, {Kind: api.KInt, S: "1"},
		{Kind: api.KBool, N: 2}, {Kind: api.KBool, N: -1}, {Kind: api.KBool, S: "true"}, {Kind: api.KBool, N: 1, S: " "},
		{Kind: api.KText, N: 1}, {Kind: api.KText, S: "a", N: -1}, {Kind: api.KText, S: strings.Repeat("a", 61)}, {Kind: api.KText, S: "\x1f"}, {Kind: api.KText, S: "a\x7f"}, {Kind: api.KText, S: "é"}, {Kind: api.KText, S: "a\n"}, {Kind: api.KText, S: "\x00"}, {Kind: api.KText, S: "\xff"},
	}
	for kind := api.KChan; kind <= api.KLock; kind++ {
		list = append(list, api.Value{Kind: kind}, api.Value{Kind: kind, N: -1}, api.Value{Kind: kind, N: api.MaxInt + 1}, api.Value{Kind: kind, N: math.MinInt}, api.Value{Kind: kind, N: 1, S: "a"})
	}
	return list
}

// TestP71Valid checks values of all kinds.
func TestP71Valid(t *testing.T) {
	for _, v := range pool() {
		if !Valid(v) {
			t.Errorf("Valid(%v) = false", v)
		}
	}
	for _, v := range wrongValues() {
		if Valid(v) {
			t.Errorf("Valid(%v) = true", v)
		}
	}
}

// TestP71ValidFault checks faults of all kinds.
func TestP71ValidFault(t *testing.T) {
	long := strings.Repeat("x", 60)
	for _, f := range []api.Fault{{}, {Kind: api.FCancel}, {Kind: api.FThrow}, {Kind: api.FThrow, Text: "a b"}, {Kind: api.FThrow, Text: long}, {Kind: api.FThrow, Text: `"\~`}} {
		if !ValidFault(f) {
			t.Errorf("ValidFault(%v) = false", f)
		}
	}
	for _, f := range []api.Fault{{Text: "a"}, {Kind: api.FCancel, Text: "a"}, {Kind: api.FCancel, Text: " "}, {Kind: api.FThrow, Text: long + "x"}, {Kind: api.FThrow, Text: "\n"}, {Kind: api.FThrow, Text: "\x7f"}, {Kind: -1}, {Kind: 3}, {Kind: math.MinInt, Text: "a"}, {Kind: math.MaxInt}} {
		if ValidFault(f) {
			t.Errorf("ValidFault(%v) = true", f)
		}
	}
}

// oracle computes an operator in another way: numbers without bounds, and what the chapter says in its order. Its fault is a text.
func oracle(op int, v, w api.Value) (api.Value, string) {
	switch op {
	case api.EOr, api.EAnd:
		if v.Kind != api.KBool {
			return api.Value{}, "kind"
		}
		if (v.N == 1) == (op == api.EOr) {
			return v, ""
		}
		if w.Kind != api.KBool {
			return api.Value{}, "kind"
		}
		return w, ""
	case api.EEq, api.ENe:
		if v.Kind != w.Kind {
			return api.Value{}, "kind"
		}
		return bit((v.N == w.N && v.S == w.S) == (op == api.EEq)), ""
	}
	if v.Kind != w.Kind || v.Kind != api.KInt && (v.Kind != api.KText || op > api.EAdd) {
		return api.Value{}, "kind"
	}
	if op <= api.EGe {
		order := strings.Compare(v.S, w.S) + big.NewInt(int64(v.N)).Cmp(big.NewInt(int64(w.N)))
		return bit(order < 0 && op <= api.ELe || order > 0 && op >= api.EGt || order == 0 && (op == api.ELe || op == api.EGe)), ""
	}
	if v.Kind == api.KText {
		if joined := v.S + w.S; len(joined) <= 60 {
			return api.Value{Kind: api.KText, S: joined}, ""
		}
		return api.Value{}, "long"
	}
	return oracleNumber(op, big.NewInt(int64(v.N)), big.NewInt(int64(w.N)))
}

func bit(is bool) api.Value {
	if is {
		return api.Value{Kind: api.KBool, N: 1}
	}
	return api.Value{Kind: api.KBool, N: 0}
}

func oracleNumber(op int, x, y *big.Int) (api.Value, string) {
	z := new(big.Int)
	switch op {
	case api.EAdd:
		z.Add(x, y)
	case api.ESub:
		z.Sub(x, y)
	case api.EMul:
		z.Mul(x, y)
	default:
		if y.Sign() == 0 {
			return api.Value{}, "zero"
		}
		quotient := new(big.Int).Div(new(big.Int).Abs(x), new(big.Int).Abs(y))
		if x.Sign()*y.Sign() < 0 {
			quotient.Neg(quotient)
		}
		if z = quotient; op == api.ERem {
			z = new(big.Int).Sub(x, new(big.Int).Mul(quotient, y))
		}
	}
	if new(big.Int).Abs(z).Cmp(big.NewInt(1000000000000)) > 0 {
		return api.Value{}, "big"
	}
	return api.Value{Kind: api.KInt, N: int(z.Int64())}, ""
}

// wantOutcome checks a value, or a fault.
func wantOutcome(t *testing.T, what string, v api.Value, f api.Fault, err api.Errno, want api.Value, text string) {
	t.Helper()
	wantFault := api.Fault{}
	if text != "" {
		wantFault = api.Fault{Kind: api.FThrow, Text: text}
	}
	if v != want || f != wantFault || err != api.OK {
		t.Errorf("%s = %v, %v, %d, want %v, %v", what, v, f, err, want, wantFault)
	}
	if !Valid(v) || !ValidFault(f) {
		t.Errorf("%s: %v, %v is not valid", what, v, f)
	}
}
