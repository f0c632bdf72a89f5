package shape

import (
	"strconv"
	"strings"

	"seedbed/api"
)

const (
	unitText  = "unit"
	trueText  = "true"
	falseText = "false"
)

// handles holds the words of the kinds whose values are numbers that the world gave.
var handles = [api.KLock + 1]string{api.KChan: "chan", api.KTask: "task", api.KLock: "lock"}

// Show returns the text of a value that has been checked.
func Show(v api.Value) string {
	switch v.Kind {
	case api.KUnit:
		return unitText
	case api.KInt:
		return strconv.Itoa(v.N)
	case api.KBool:
		if v.N == 1 {
			return trueText
		}
		return falseText
	case api.KText:
		return Quote(v.S)
	}
	return handles[v.Kind] + "#" + strconv.Itoa(v.N)
}

// Read returns the value with a text; false: there is none.
func Read(s string) (api.Value, bool) {
	v := guess(s)
	if !Valid(v) || Show(v) != s {
		return api.Value{}, false
	}
	return v, true
}

// guess returns the only value that can have a text, if there is one; it need not be valid, nor have the text.
func guess(s string) api.Value {
	switch s {
	case unitText:
		return api.Value{}
	case trueText:
		return api.Value{Kind: api.KBool, N: 1}
	case falseText:
		return api.Value{Kind: api.KBool}
	}
	if strings.HasPrefix(s, `"`) {
		return api.Value{Kind: api.KText, S: unquote(s)}
	}
	word, digits, _ := strings.Cut(s, "#")
	for kind, handle := range handles {
		if handle != "" && handle == word {
			return api.Value{Kind: kind, N: numeral(digits)}
		}
	}
	return api.Value{Kind: api.KInt, N: numeral(s)}
}

// numeral returns the number of a text, and 0 if there is none.
func numeral(s string) int {
	n, err := strconv.Atoi(s)
	if err != nil {
		return 0
	}
	return n
}

// unquote returns the text that a quote can have.
func unquote(quote string) string {
	var out strings.Builder
	inner := strings.TrimSuffix(quote[1:], `"`)
	for i := 0; i < len(inner); i++ {
		if inner[i] == '\\' && i+1 < len(inner) {
			i++
		}
		out.WriteByte(inner[i])
	}
	return out.String()
}
