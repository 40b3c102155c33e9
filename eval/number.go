package eval

import (
	"math"

	"parchment/api"
	"parchment/value"
)

// number is what a sign makes of two numbers; nothing, if a side is nothing.
func number(sign string, a, b api.Value) (api.Value, api.Errno) {
	if !numeric(a) || !numeric(b) {
		return api.Value{}, api.ErrType
	}
	if a.Kind == api.Null || b.Kind == api.Null {
		return value.None(), api.OK
	}
	n, fits := reckoned(sign, a.N, b.N)
	if !fits {
		return api.Value{}, api.ErrOver
	}
	return value.Int(n), api.OK
}

// numeric tells whether a value may stand beside a number's sign.
func numeric(v api.Value) bool { return v.Kind == api.Int || v.Kind == api.Null }

// reckoned is a sum, a difference or a product, and whether it is an int64.
func reckoned(sign string, a, b int64) (int64, bool) {
	switch sign {
	case "+":
		n := a + b
		return n, (n >= a) == (b >= 0)
	case "-":
		n := a - b
		return n, (n <= a) == (b >= 0)
	}
	n := a * b
	// The least number by -1 is wrapped round, and so is the division that is to tell of it.
	wraps := a == -1 && b == math.MinInt64
	return n, a == 0 || n/a == b && !wraps
}
