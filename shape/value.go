package shape

import (
	"strings"

	"seedbed/api"
)

// Valid reports whether a value is valid.
func Valid(v api.Value) bool {
	switch v.Kind {
	case api.KUnit:
		return v == api.Value{}
	case api.KInt:
		return v.S == "" && v.N >= -api.MaxInt && v.N <= api.MaxInt
	case api.KBool:
		return v.S == "" && (v.N == 0 || v.N == 1)
	case api.KText:
		return v.N == 0 && IsText(v.S)
	case api.KChan, api.KTask, api.KLock:
		return v.S == "" && v.N >= 1 && v.N <= api.MaxInt
	}
	return false
}

// IsText reports whether a value, a fault or a quote can have a text.
func IsText(s string) bool {
	if len(s) > api.MaxText {
		return false
	}
	for i := range len(s) {
		if s[i] < 32 || s[i] > 126 {
			return false
		}
	}
	return true
}

// Quote returns the quote of a text that has been checked.
func Quote(text string) string {
	text = strings.ReplaceAll(text, `\`, `\\`)
	return `"` + strings.ReplaceAll(text, `"`, `\"`) + `"`
}
