// Package words writes and reads what the lines of traces and snapshots consist of: numbers, values and faults (see shared/doc/25-trace.md), with one blank between any two.
package words

import (
	"strconv"
	"strings"

	"seedbed/api"
	"seedbed/shape"
)

// What stands between two words, and what ends a line.
const (
	Blank    = " "
	LineFeed = "\n"
)

const (
	unitText   = "_"
	noneText   = "-"
	cancelText = "cancel"
	throwText  = "throw"
)

// letters holds those of the kinds whose values are numbers that the world gave.
var letters = [api.KLock + 1]string{api.KChan: "c", api.KTask: "t", api.KLock: "l"}

// Value returns the text of a value that has been checked.
func Value(v api.Value) string {
	switch letter := letters[v.Kind]; {
	case v.Kind == api.KUnit:
		return unitText
	case letter != "":
		return letter + strconv.Itoa(v.N)
	}
	return shape.Show(v)
}

// Fault returns the text of a fault that has been checked.
func Fault(f api.Fault) string {
	switch f.Kind {
	case api.FThrow:
		return throwText + Blank + shape.Quote(f.Text)
	case api.FCancel:
		return cancelText
	}
	return noneText
}

// Cursor goes over a string from its beginning, word by word.
type Cursor struct {
	rest string // what comes next
}

// Over returns a cursor at the beginning of a string.
func Over(s string) Cursor { return Cursor{s} }

// AtEnd reports whether nothing comes next.
func (c *Cursor) AtEnd() bool { return c.rest == "" }

// Skip goes over a text, and reports whether that comes next.
func (c *Cursor) Skip(text string) bool {
	rest, ok := strings.CutPrefix(c.rest, text)
	c.rest = rest
	return ok
}

// Word goes over a word. It ends before a blank or a line feed; but a quote does not end before its last quotation mark.
func (c *Cursor) Word() string {
	end, quoted := 0, false
	for end < len(c.rest) && (quoted || c.rest[end] != ' ' && c.rest[end] != '\n') {
		switch c.rest[end] {
		case '"':
			quoted = !quoted
		case '\\':
			end++ // what is escaped does not end a quote
		}
		end++
	}
	end = min(end, len(c.rest))
	word := c.rest[:end]
	c.rest = c.rest[end:]
	return word
}

// Number goes over the decimal text of a number; false: that does not come next.
func (c *Cursor) Number() (int, bool) {
	word := c.Word()
	n, err := strconv.Atoi(word)
	if err != nil || strconv.Itoa(n) != word {
		return 0, false
	}
	return n, true
}

// Value goes over the text of a valid value; false: that does not come next.
func (c *Cursor) Value() (api.Value, bool) {
	word := c.Word()
	v := guess(word)
	if !shape.Valid(v) || Value(v) != word {
		return api.Value{}, false
	}
	return v, true
}

// guess returns the only value that can have a text, if there is one; it need not have it.
func guess(word string) api.Value {
	for kind, letter := range letters {
		digits, ok := strings.CutPrefix(word, letter)
		if n, err := strconv.Atoi(digits); letter != "" && ok && err == nil {
			return api.Value{Kind: kind, N: n}
		}
	}
	v, _ := shape.Read(word)
	return v
}

// Fault goes over the text of a valid fault; false: that does not come next.
func (c *Cursor) Fault() (api.Fault, bool) {
	switch c.Word() {
	case noneText:
		return api.Fault{}, true
	case cancelText:
		return api.Fault{Kind: api.FCancel}, true
	case throwText:
		if !c.Skip(Blank) {
			break
		}
		if v, ok := c.Value(); ok && v.Kind == api.KText {
			return api.Fault{Kind: api.FThrow, Text: v.S}, true
		}
	}
	return api.Fault{}, false
}
