package pack

import "seedbed/api"

const (
	maxNumber = 1 << 60 // the greatest number that is read
	maxSize   = 9       // the number of its bytes
	digitBits = 7       // of a number in each byte
)

// reader reads the bytes of a code.
type reader struct{ rest string }

// damaged is the panic by which a reader ends where no code has such bytes.
type damaged struct{}

func need(holds bool) {
	if !holds {
		panic(damaged{})
	}
}

// unpacked returns the code, valid or not, of the list of functions whose bytes are given; false: there is none.
func unpacked(bytes string) (c api.Code, ok bool) {
	defer func() {
		if recover() != nil {
			c, ok = api.Code{}, false
		}
	}()
	r := &reader{rest: bytes}
	c.Funcs = readList(r, r.function)
	need(r.rest == "")
	return c, true
}

// readList reads a list whose elements are read by a method. Its length says nothing of how much there is to be read.
func readList[T any](r *reader, read func() T) []T {
	var list []T
	for n := r.number(); n > 0; n-- {
		list = append(list, read())
	}
	return list
}

func (r *reader) function() api.FnCode {
	var f api.FnCode
	f.Name = r.text()
	f.Params = r.number()
	f.Slots = r.number()
	f.Code = readList(r, r.instr)
	f.Guards = readList(r, r.guard)
	return f
}

func (r *reader) instr() api.Instr {
	var in api.Instr
	in.Op = r.byte()
	in.A = r.int()
	in.B = r.int()
	in.C = r.int()
	in.V.Kind = r.byte()
	in.V.N = r.int()
	in.V.S = r.text()
	in.L = readList(r, r.int)
	return in
}

func (r *reader) guard() api.Guard {
	var g api.Guard
	g.From = r.number()
	g.To = r.number()
	g.At = r.number()
	g.Slot = r.number()
	return g
}

// take takes a number of bytes from what is left.
func (r *reader) take(n int) string {
	need(n <= len(r.rest))
	taken := make([]byte, n)
	copy(taken, r.rest)
	r.rest = r.rest[n:]
	return string(taken)
}

func (r *reader) byte() int { return int(r.take(1)[0]) }

func (r *reader) number() int {
	n, size, ok := leading(r.rest)
	need(ok)
	r.take(size)
	return n
}

func (r *reader) int() int {
	n := r.number()
	if n%2 == 1 {
		return -(n + 1) / 2
	}
	return n / 2
}

func (r *reader) text() string { return r.take(r.number()) }

// leading returns the number with whose bytes others begin, and how many bytes it has; false: there is none, or it is greater than maxNumber.
func leading(bytes string) (n, size int, ok bool) {
	for size < min(len(bytes), maxSize) {
		digit := int(bytes[size])
		n += digit % continued << (digitBits * size)
		size++
		if digit >= continued {
			continue
		}
		// A last byte of 0 would add nothing, and no number is written like this.
		if n > maxNumber || digit == 0 && size > 1 {
			return 0, 0, false
		}
		return n, size, true
	}
	return 0, 0, false
}
