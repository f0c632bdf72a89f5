package snapshot

import (
	"strconv"
	"strings"

	"seedbed/api"
	"seedbed/words"
)

// writer writes lines word by word.
type writer struct {
	strings.Builder
	within bool // a line, behind its first word
}

func (w *writer) words(list ...string) *writer {
	for _, word := range list {
		if w.within {
			w.WriteString(words.Blank)
		}
		w.WriteString(word)
		w.within = true
	}
	return w
}

func (w *writer) numbers(list ...int) *writer {
	for _, n := range list {
		w.words(strconv.Itoa(n))
	}
	return w
}

// flags writes 1 for what is, and 0 for what is not.
func (w *writer) flags(list ...bool) *writer {
	for _, is := range list {
		n := 0
		if is {
			n = 1
		}
		w.numbers(n)
	}
	return w
}

func (w *writer) values(list ...api.Value) *writer {
	for _, v := range list {
		w.words(words.Value(v))
	}
	return w
}

func (w *writer) fault(f api.Fault) *writer { return w.words(words.Fault(f)) }

// colon writes what stands between the parts of a line.
func (w *writer) colon() *writer { return w.words(":") }

func (w *writer) end() {
	w.WriteString(words.LineFeed)
	w.within = false
}
