package shape

import (
	"seedbed/api"
	"seedbed/lexis"
)

// Valid reports whether a value is valid.
func Valid(v api.Value) bool {
	switch v.Kind {
	case api.KUnit:
		return v == api.Value{}
	case api.KInt:
		return v.S == "" && v.N >= -api.MaxInt && v.N <= api.MaxInt
	case api.KBool:
		return v.S == "" && (v.N == 0 || v.N == 1)
	case api.KText:
		return v.N == 0 && isText(v.S)
	case api.KChan, api.KTask, api.KLock:
		return v.S == "" && v.N >= 1 && v.N <= api.MaxInt
	}
	return false
}

// isText reports whether a quote can have a text.
func isText(s string) bool {
	_, err := lexis.Quote(s)
	return err == api.OK
}
