// Package lexis is layer 1: it cuts a source into tokens. See shared/doc/01-lexis.md.
package lexis

import (
	"strings"

	"seedbed/api"
)

// Tokens returns the tokens of a source; if there is an error, its position.
func Tokens(source string) ([]api.Token, int, api.Errno) {
	if len(source) > api.MaxSource {
		return nil, 0, api.ErrFull
	}
	s := newScanner(source)
	var list []api.Token
	for t := range s.tokens {
		list = append(list, t)
	}
	if s.stopped {
		return nil, s.at, api.ErrSyntax
	}
	return list, 0, api.OK
}

// Join returns a source of tokens, with one blank between each two.
func Join(tokens []api.Token) (string, api.Errno) {
	var out strings.Builder
	known := signs()
	for i, t := range tokens {
		if t.Kind == api.TEnd && t.Text == "" && i == len(tokens)-1 {
			break
		}
		text, ok := textOf(t, known)
		if !ok {
			return "", api.ErrArg
		}
		if i > 0 {
			out.WriteByte(' ')
		}
		out.WriteString(text)
		if out.Len() > api.MaxSource {
			return "", api.ErrArg
		}
	}
	return out.String(), api.OK
}

// IsName reports whether a string is a name.
func IsName(s string) bool {
	if len(s) == 0 || len(s) > api.MaxName || !isLetter(s[0]) {
		return false
	}
	return run(s, isLetterOrDigit) == len(s) && !IsWord(s)
}

// IsWord reports whether a string is a word.
func IsWord(s string) bool {
	return !strings.Contains(s, " ") && strings.Contains(words, " "+s+" ")
}

// Words returns the words in ascending order.
func Words() []string { return strings.Fields(words) }

// Quote returns the quote with a text.
func Quote(text string) (string, api.Errno) {
	if len(text) > api.MaxText {
		return "", api.ErrArg
	}
	var out strings.Builder
	out.WriteByte('"')
	for i := range len(text) {
		c := text[i]
		if !isPrinted(c) {
			return "", api.ErrArg
		}
		if needsEscape(c) {
			out.WriteByte('\\')
		}
		out.WriteByte(c)
	}
	out.WriteByte('"')
	return out.String(), api.OK
}

// Place returns the line and the column of a position in a source.
func Place(source string, at int) (int, int, api.Errno) {
	if len(source) > api.MaxSource || at < 0 || at > len(source) {
		return 0, 0, api.ErrArg
	}
	before := source[:at]
	// Without a line feed before it LastIndexByte is -1, one before the beginning.
	return 1 + strings.Count(before, "\n"), at - strings.LastIndexByte(before, '\n'), api.OK
}
