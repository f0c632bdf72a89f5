package pack

import "seedbed/api"

// continued is what a byte of a number has more if others follow.
const continued = 128

// writer writes the bytes of a code.
type writer struct{ bytes []byte }

// packed returns the packed form of a valid code, however long it is.
func packed(c api.Code) string {
	w := &writer{bytes: []byte(magic)}
	writeList(w, c.Funcs, w.function)
	return string(appendSum(w.bytes, string(w.bytes)))
}

// writeList writes a list whose elements are written by a method.
func writeList[T any](w *writer, list []T, write func(T)) {
	w.number(len(list))
	for _, x := range list {
		write(x)
	}
}

func (w *writer) function(f api.FnCode) {
	w.text(f.Name)
	w.number(f.Params)
	w.number(f.Slots)
	writeList(w, f.Code, w.instr)
	writeList(w, f.Guards, w.guard)
}

func (w *writer) instr(in api.Instr) {
	w.byte(in.Op)
	w.int(in.A)
	w.int(in.B)
	w.int(in.C)
	w.byte(in.V.Kind)
	w.int(in.V.N)
	w.text(in.V.S)
	writeList(w, in.L, w.int)
}

func (w *writer) guard(g api.Guard) {
	w.number(g.From)
	w.number(g.To)
	w.number(g.At)
	w.number(g.Slot)
}

func (w *writer) byte(n int) { w.bytes = append(w.bytes, byte(n)) }

func (w *writer) number(n int) { w.bytes = appendNumber(w.bytes, n) }

// int writes an int. Those of a valid code are small enough to be doubled.
func (w *writer) int(n int) {
	if n < 0 {
		w.number(-2*n - 1)
		return
	}
	w.number(2 * n)
}

func (w *writer) text(s string) {
	w.number(len(s))
	w.bytes = append(w.bytes, s...)
}

func appendNumber(bytes []byte, n int) []byte {
	for n >= continued {
		bytes = append(bytes, byte(continued+n%continued))
		n /= continued
	}
	return append(bytes, byte(n))
}

// appendSum appends the sum of what stands before it.
func appendSum(bytes []byte, before string) []byte {
	sum := Sum(before)
	return append(bytes, byte(sum>>24), byte(sum>>16), byte(sum>>8), byte(sum))
}
