package lexis

import (
	"strconv"

	"seedbed/api"
)

// words holds the words in ascending order, with a blank around each one, so that a whole word can be searched for.
const words = " after await bool break buffer cancel catch chan close continue drop each else emit false finally flow fn from hold if int let lock new now old produce receive return scope select send shield sleep spawn supervised task text throw true try use while within yield "

// longestSign is the number of bytes of the longest sign.
const longestSign = 2

func signs() map[string]bool {
	return map[string]bool{
		"(": true, ")": true, "{": true, "}": true, ",": true, ";": true,
		"=": true, "==": true, "!=": true, "<": true, "<=": true, ">": true, ">=": true,
		"+": true, "-": true, "*": true, "/": true, "%": true, "!": true, "&&": true, "||": true,
	}
}

func isBlank(c byte) bool { return c == 9 || c == 10 || c == 13 || c == 32 }

func isLetter(c byte) bool { return 'a' <= c && c <= 'z' }

func isDigit(c byte) bool { return '0' <= c && c <= '9' }

func isLetterOrDigit(c byte) bool { return isLetter(c) || isDigit(c) }

func isPrinted(c byte) bool { return 32 <= c && c <= 126 }

func needsEscape(c byte) bool { return c == '"' || c == '\\' }

// run is how many bytes at the beginning of s are of a kind.
func run(s string, is func(byte) bool) int {
	n := 0
	for n < len(s) && is(s[n]) {
		n++
	}
	return n
}

func isNumeral(s string) bool {
	if s == "" || run(s, isDigit) < len(s) || s[0] == '0' && s != "0" {
		return false
	}
	n, err := strconv.Atoi(s)
	return err == nil && n <= api.MaxInt
}

// textOf is what stands in a source for a token, and whether Tokens can return that token before the end.
func textOf(t api.Token, known map[string]bool) (string, bool) {
	switch t.Kind {
	case api.TName:
		return t.Text, IsName(t.Text)
	case api.TInt:
		return t.Text, isNumeral(t.Text)
	case api.TText:
		quote, err := Quote(t.Text)
		return quote, err == api.OK
	case api.TSign:
		return t.Text, known[t.Text]
	case api.TWord:
		return t.Text, IsWord(t.Text)
	}
	return "", false
}
