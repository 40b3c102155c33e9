package plan

import (
	"math"
	"slices"
	"testing"

	"parchment/api"
	"parchment/eval"
	"parchment/keys"
	"parchment/value"
)

// Promise 19.1: each sign's span, byte by byte.
func TestSpanInBytes(t *testing.T) {
	three := "\x02\x80\x00\x00\x00\x00\x00\x00\x03"
	for _, c := range []struct {
		v         api.Value
		key, next string
	}{
		{value.None(), "\x00", "\x01"},
		{value.Bool(false), "\x01\x00", "\x01\x01"},
		{value.Bool(true), "\x01\x01", "\x01\x02"},
		{value.Int(3), three, three[:8] + "\x04"},
		{value.Int(-1), "\x02\x7f\xff\xff\xff\xff\xff\xff\xff", "\x02\x80"},
		{value.Int(math.MaxInt64), "\x02\xff\xff\xff\xff\xff\xff\xff\xff", "\x03"},
		{value.Int(math.MinInt64), "\x02\x00\x00\x00\x00\x00\x00\x00\x00", "\x02\x00\x00\x00\x00\x00\x00\x00\x01"},
		{value.Str(""), "\x03\x00\x01", "\x03\x00\x02"},
		{value.Str("ab"), "\x03ab\x00\x01", "\x03ab\x00\x02"},
		{value.Bytes("\x00"), "\x04\x00\xff\x00\x01", "\x04\x00\xff\x00\x02"},
		{value.List(), "\x05\x00", "\x05\x01"},
		{value.List(value.None()), "\x05\x01\x00\x00", "\x05\x01\x00\x01"},
		{value.Struct(nil, nil), "\x06\x00", "\x06\x01"},
	} {
		for sign, want := range map[string]api.Span{
			"=":  {Low: c.key, High: c.next},
			"<":  {High: c.key},
			"<=": {High: c.next},
			">":  {Low: c.next},
			">=": {Low: c.key},
		} {
			if got, ok := Span(sign, c.v); !ok || got != want {
				t.Errorf("Span(%s, %v) = %q, %v, want %q", sign, c.v, got, ok, want)
			}
		}
	}
}

// Promise 19.1: false for other signs, and no span beside it.
func TestSpanOfOtherSigns(t *testing.T) {
	for _, sign := range otherSigns {
		for _, v := range kinds() {
			if got, ok := Span(sign, v); ok || got != (api.Span{}) {
				t.Errorf("Span(%q, %v) = %q, %v", sign, v, got, ok)
			}
		}
	}
}

// Promise 19.1: a span has the keys of just those values for which the comparison holds, alone or with any number behind them.
func TestSpanAgainstComparisons(t *testing.T) {
	for _, v := range kinds() {
		for _, sign := range spanSigns {
			s, ok := Span(sign, v)
			if !ok {
				t.Fatal(sign, v)
			}
			for _, w := range kinds() {
				want, e := eval.Holds(bin(lit(w), sign, lit(v)), value.None())
				if e != 0 {
					t.Fatal(w, sign, v, e)
				}
				for _, k := range []string{keys.Of(w), keys.Pair(w, 0), keys.Pair(w, 1), keys.Pair(w, math.MaxUint64)} {
					if keys.Has(s, k) != want {
						t.Errorf("%v %s %v: %q in %q is not %v", w, sign, v, k, s, want)
					}
				}
			}
		}
	}
}

// Promise 19.1: what is below, what is equal and what is above are all keys, each once.
func TestSpansPartAllKeys(t *testing.T) {
	texts := []string{"", "\x00", "\x00\x00", "\x01", "\x02\xff\xff\xff\xff\xff\xff\xff\xff\xff", "\x03\x00", "\x03\x00\x01", "\x03\x00\x01\xff\xff", "\x03\x00\x02", "\x06\x01", "\xff", "\xff\xff"}
	for _, v := range kinds() {
		for _, w := range kinds() {
			texts = append(texts, keys.Of(w), keys.Next(keys.Of(w)), keys.Pair(w, math.MaxUint64))
		}
		has := func(sign, k string) int {
			if s, _ := Span(sign, v); keys.Has(s, k) {
				return 1
			}
			return 0
		}
		for _, k := range texts {
			below, at, above := has("<", k), has("=", k), has(">", k)
			if below+at+above != 1 || has("<=", k) != below+at || has(">=", k) != above+at {
				t.Errorf("%v, %q: %d %d %d", v, k, below, at, above)
			}
		}
	}
}

// R2: a value that was handed in is as it was, and may be changed later.
func TestSpanLeavesItsValue(t *testing.T) {
	v, was := great().Kids[1].Kids[1].V, great().Kids[1].Kids[1].V
	for _, sign := range slices.Concat(spanSigns, otherSigns) {
		first, ok := Span(sign, v)
		if !equal(v, was) {
			t.Fatalf("%s: %v", sign, v)
		}
		if again, okAgain := Span(sign, v); again != first || okAgain != ok {
			t.Errorf("%s: %q, %q", sign, first, again)
		}
	}
}

// R1: values that may not be end with an answer.
func TestSpanOfNoValues(t *testing.T) {
	for _, v := range []api.Value{
		{Kind: -1}, {Kind: 7}, {Kind: 255}, {Kind: 511}, {Kind: math.MinInt}, {Kind: 2, S: "x", B: true},
		{Kind: 6, Parts: []api.Value{{}, {}}}, {Kind: 6, Names: []string{"a", ""}}, {Kind: 5, Names: []string{"a"}, Parts: []api.Value{{Kind: 9}}},
	} {
		for _, sign := range slices.Concat(spanSigns, otherSigns) {
			first, ok := Span(sign, v)
			if again, okAgain := Span(sign, v); first != again || ok != okAgain || ok != slices.Contains(spanSigns, sign) {
				t.Errorf("Span(%s, %v) = %q, %v, and %q, %v", sign, v, first, ok, again, okAgain)
			}
		}
	}
}
