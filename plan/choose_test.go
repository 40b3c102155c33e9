package plan

import (
	"slices"
	"strings"
	"testing"

	"parchment/api"
	"parchment/keys"
	"parchment/value"
)

// Example 1: one span of a.
func TestExample(t *testing.T) {
	x := parsed(t, "a > 3 AND a < 9")
	chosen(t, x, []string{"a"}, "a", from(past(3), key(9)))
	chosen(t, x, nil, "", api.Span{})
}

// Promise 19.1: each sign's span, whichever side the field stands on.
func TestChooseBySign(t *testing.T) {
	for _, v := range kinds() {
		for sign, turned := range map[string]string{"=": "=", "<": ">", "<=": ">=", ">": "<", ">=": "<="} {
			want, _ := Span(sign, v)
			chosen(t, bin(path("a"), sign, lit(v)), []string{"a"}, "a", want)
			chosen(t, bin(lit(v), turned, path("a")), []string{"a"}, "a", want)
		}
	}
}

// Promise 19.1: plans of statements as they are written.
func TestChooseOfTexts(t *testing.T) {
	equal3 := keys.Equal(value.Int(3))
	equal4 := keys.Equal(value.Int(4))
	for _, c := range []struct {
		s, indexes, field string
		span              api.Span
	}{
		{"a = 3", "a", "a", equal3},
		{"3 = a", "a", "a", equal3},
		{"a < 3", "a", "a", from("", key(3))},
		{"3 > a", "a", "a", from("", key(3))},
		{"a <= 3", "a", "a", from("", past(3))},
		{"3 >= a", "a", "a", from("", past(3))},
		{"a > 3", "a", "a", from(past(3), "")},
		{"3 < a", "a", "a", from(past(3), "")},
		{"a >= 3", "a", "a", from(key(3), "")},
		{"3 <= a", "a", "a", from(key(3), "")},
		{"a = NULL", "a", "a", from("\x00", "\x01")},
		{"a > NULL", "a", "a", from("\x01", "")},
		{"a <= TRUE", "a", "a", from("", "\x01\x02")},
		{"FALSE < a", "a", "a", from("\x01\x01", "")},
		{"a = 'x'", "a", "a", from("\x03x\x00\x01", "\x03x\x00\x02")},
		{"x'78' >= a", "a", "a", from("", "\x04x\x00\x02")},
		// Which index, by the parts, not by the list of indexes.
		{"a = 3 AND b = 4", "a b", "a", equal3},
		{"a = 3 AND b = 4", "b a", "a", equal3},
		{"b = 4 AND a = 3", "a b", "b", equal4},
		{"a = 3 AND b = 4", "b", "b", equal4},
		{"a = 3 AND b = 4", "a a b b", "a", equal3},
		{"a = 3 AND b = 4", "c", "", api.Span{}},
		{"a = 3 AND b = 4", "", "", api.Span{}},
		{"a > 3 AND b = 4", "a b", "a", from(past(3), "")},
		{"a = 3", "A aa a_", "", api.Span{}},
		// Parts of the field are met, wherever they stand; the others say nothing.
		{"a > 3 AND b = 4 AND 9 >= a", "a b", "a", from(past(3), past(9))},
		{"b = 4 AND a > 3 AND 9 > a", "a", "a", from(past(3), key(9))},
		{"a > 3 AND b = 4 AND b < 9 AND a < 5", "b", "b", equal4},
		{"b < 9 AND (a > 3 AND (b = 4 AND a < 5))", "b", "b", equal4},
		{"a > 3 AND a > 4 AND a < 9 AND a < 8 AND a >= 2 AND a <= 10", "a", "a", from(past(4), key(8))},
		{"a >= 3 AND a <= 3", "a", "a", equal3},
		{"a = 3 AND a = 3", "a", "a", equal3},
		{"a > 3 AND a <> 5 AND a < 9", "a", "a", from(past(3), key(9))},
		{"a > 3 AND NOT a > 9", "a", "a", from(past(3), "")},
		{"a > 3 AND (a < 9 OR b = 1)", "a", "a", from(past(3), "")},
		{"a > 3 AND a.b < 9", "a", "a", from(past(3), "")},
		{"a > 3 AND A < 9 AND aa < 9", "a A aa", "a", from(past(3), "")},
		{"a > NULL AND a < 'x'", "a", "a", from("\x01", "\x03x\x00\x01")},
		// What says no span is passed over.
		{"a <> 3 AND b = 4", "a b", "b", equal4},
		{"c AND NOT a = 3 AND b = 4", "a b c", "b", equal4},
		{"(a = 3 OR a = 4) AND b = 4", "a b", "b", equal4},
		{"a IS NULL AND b = 4", "a b", "b", equal4},
		{"a = 3 IS NULL AND b = 4", "a b", "b", equal4},
		{"a = c AND 3 = 3 AND b = 4", "a b c", "b", equal4},
		{"a = -3 AND a + 0 = 3 AND a = 1 + 2 AND b = 4", "a b", "b", equal4},
		{"a = [3] AND a = {x: 3} AND b = 4", "a b", "b", equal4},
		{"a.b = 3 AND b = 4", "a b a.b", "b", equal4},
		{"c.b = 3 AND 4 = b AND b.c = 3", "a b c", "b", equal4},
		// A part of the field that says a span ahead of an index's is no matter, if the field has none.
		{"c = 1 AND a = 3 AND c = 2", "a b", "a", equal3},
	} {
		chosen(t, parsed(t, c.s), strings.Fields(c.indexes), c.field, c.span)
	}
}

// Promise 19.1: the plan of parts that no key is in the spans of all is that of no keys, of their field.
func TestChooseOfNothing(t *testing.T) {
	for _, s := range []string{"a > 9 AND a < 3", "a = 3 AND a = 4", "a < 3 AND a > 3", "a <= 3 AND a > 3", "a = 3 AND a <> 3 AND a = 'x'", "a < NULL", "a < 3 AND b = 1 AND a >= 3"} {
		got := Choose(parsed(t, s), []string{"b", "a"})
		if got.Field != "a" {
			t.Errorf("%s: %q", s, got)
		}
		for _, v := range kinds() {
			if keys.Has(got.Span, keys.Of(v)) || keys.Has(got.Span, keys.Pair(v, 7)) {
				t.Errorf("%s: %q has %v", s, got, v)
			}
		}
	}
}

// Promise 19.1: parts that say no span, alone or beside others that say none, leave all.
func TestChooseOfAll(t *testing.T) {
	a, three := path("a"), num(3)
	says := bin(a, "=", three)
	none := []api.Expr{
		{}, a, three, lit(value.Bool(true)), not(says), neg(says), isNull(says), isNull(a), list(says), fields("a", says), fields("a", three),
		bin(says, "OR", says), bin(a, "=", a), bin(three, "=", three), bin(three, "<", three), bin(says, "=", lit(value.Bool(true))), bin(lit(value.Bool(true)), "=", says),
		bin(a, "=", neg(three)), bin(neg(a), "<", three), bin(a, "=", bin(num(1), "+", num(2))), bin(bin(a, "+", num(0)), "=", three),
		bin(a, "=", list(three)), bin(list(a), "=", list(three)), bin(a, ">", fields("a", three)), bin(a, "=", list()), bin(a, "=", fields("")),
		bin(path("a.b"), "=", three), bin(three, "<", path("a.b")), bin(path("a.a"), ">=", three), bin(path("b"), "=", three), bin(path("A"), "=", three),
		bin(path(""), "=", three), bin(path("."), "=", three), bin(path("a."), "=", three), bin(path(".a"), "=", three), bin(a, "=", api.Expr{}), bin(api.Expr{}, "=", three),
	}
	// The text of an expression of another kind is no field, and no sign.
	for _, kind := range []int{1, 3, 4, 5, 6, 7, 8, 9, -1} {
		none = append(none, bin(api.Expr{Kind: kind, S: "a"}, "=", three), bin(three, "=", api.Expr{Kind: kind, S: "a"}))
		if kind != 6 {
			none = append(none, api.Expr{Kind: kind, S: "=", Kids: []api.Expr{a, three}})
		}
	}
	for _, sign := range otherSigns {
		if sign != "AND" {
			none = append(none, bin(a, sign, three), bin(three, sign, a))
		}
	}
	indexes := []string{"", ".", "a", "a.", ".a", "a.a", "a.b"}
	for _, x := range none {
		chosen(t, x, indexes, "", api.Span{})
		for _, y := range none {
			chosen(t, and(x, y), indexes, "", api.Span{})
		}
		// Beside one that says a span it changes nothing.
		chosen(t, and(x, says), indexes, "a", keys.Equal(value.Int(3)))
		chosen(t, and(says, x), indexes, "a", keys.Equal(value.Int(3)))
		chosen(t, and(bin(a, ">", num(1)), and(x, bin(a, "<", num(9)))), indexes, "a", from(past(1), key(9)))
	}
}

// R2: what is handed in is as it was; R4: the same is answered again.
func TestChooseLeavesWhatItIsGiven(t *testing.T) {
	x, was := and(great(), parsed(t, "b >= 'x' AND a > 3")), and(great(), parsed(t, "b >= 'x' AND a > 3"))
	indexes := []string{"b", "a", "c", "a"}
	first := Choose(x, indexes)
	if !alike(x, was) || !slices.Equal(indexes, []string{"b", "a", "c", "a"}) {
		t.Errorf("%v, %q", x, indexes)
	}
	if first.Field != "a" {
		t.Error(first)
	}
	again := Choose(x, indexes)
	spoil(x)
	clear(indexes)
	if again != first || first != Choose(was, []string{"a"}) {
		t.Errorf("%q, %q", first, again)
	}
}

// R1: expressions of any kind, sign and number of kids end with an answer: a plan of a field that has an index, or all.
func TestNoExpressions(t *testing.T) {
	kids := []api.Expr{path("a"), num(3), {}}
	indexes := []string{"a", ""}
	for kind := -2; kind < 12; kind++ {
		for many := range 4 {
			for _, sign := range slices.Concat(spanSigns, otherSigns) {
				for _, v := range []api.Value{{}, {Kind: 9}, {Kind: 6, Parts: []api.Value{{}}}, {Kind: 6, Names: []string{"a"}}} {
					x := api.Expr{Kind: kind, S: sign, V: v, Kids: kids[:many], Names: []string{"a"}}
					for _, x := range []api.Expr{x, not(x), and(x, x), bin(x, sign, x), bin(path("a"), sign, x), bin(x, "<", path("a"))} {
						Parts(x)
						got := Choose(x, indexes)
						if got.Field != "a" && got != (api.Plan{}) {
							t.Errorf("%v: %q", x, got)
						}
						if again := Choose(x, indexes); again != got {
							t.Errorf("%v: %q, %q", x, got, again)
						}
					}
				}
			}
		}
	}
}
