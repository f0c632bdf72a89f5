package eval

import "seedbed/api"

// arithmetic is an operator that computes with numbers.
func arithmetic(compute func(x, y int) outcome) binary {
	return func(v, w api.Value) outcome {
		if !both(api.KInt, v, w) {
			return fault("kind")
		}
		return compute(v.N, w.N)
	}
}

// add is EAdd, of numbers and of texts.
func add(v, w api.Value) outcome {
	if !both(api.KText, v, w) {
		return arithmetic(func(x, y int) outcome { return small(x + y) })(v, w)
	}
	if len(v.S)+len(w.S) > api.MaxText {
		return fault("long")
	}
	return outcome{v: text(v.S + w.S)}
}

// small is the value of a number that can be out of range.
func small(n int) outcome {
	if size(n) > api.MaxInt {
		return fault("big")
	}
	return outcome{v: number(n)}
}

func size(n int) int { return max(n, -n) }

// multiply looks at the factors first, as their product can be out of the range of int.
func multiply(x, y int) outcome {
	if y != 0 && size(x) > api.MaxInt/size(y) {
		return fault("big")
	}
	return outcome{v: number(x * y)}
}

// divided guards a division against 0.
func divided(compute func(x, y int) int) func(x, y int) outcome {
	return func(x, y int) outcome {
		if y == 0 {
			return fault("zero")
		}
		return outcome{v: number(compute(x, y))}
	}
}
