package plan

import (
	"slices"
	"strings"
	"testing"

	"parchment/api"
	"parchment/keys"
	"parchment/syntax"
	"parchment/value"
)

// spanSigns are the signs that say a span.
var spanSigns = []string{"=", "<", "<=", ">", ">="}

// otherSigns are signs, and what is none, that say no span.
var otherSigns = []string{"<>", "AND", "OR", "NOT", "IS", "+", "-", "*", "", " ", "==", "=<", "=>", "><", "!=", "<<", " =", "= ", "<\x00", "≤"}

func lit(v api.Value) api.Expr   { return api.Expr{Kind: 1, V: v} }
func num(n int64) api.Expr       { return lit(api.Value{Kind: 2, N: n}) }
func path(s string) api.Expr     { return api.Expr{Kind: 2, S: s} }
func neg(x api.Expr) api.Expr    { return api.Expr{Kind: 3, Kids: []api.Expr{x}} }
func not(x api.Expr) api.Expr    { return api.Expr{Kind: 4, Kids: []api.Expr{x}} }
func isNull(x api.Expr) api.Expr { return api.Expr{Kind: 5, Kids: []api.Expr{x}} }
func list(l ...api.Expr) api.Expr {
	return api.Expr{Kind: 7, Kids: l}
}
func bin(a api.Expr, sign string, b api.Expr) api.Expr {
	return api.Expr{Kind: 6, S: sign, Kids: []api.Expr{a, b}}
}
func and(a, b api.Expr) api.Expr { return bin(a, "AND", b) }
func fields(names string, l ...api.Expr) api.Expr {
	return api.Expr{Kind: 8, Names: strings.Fields(names), Kids: l}
}

// parsed is the expression that a text says.
func parsed(t *testing.T, s string) api.Expr {
	t.Helper()
	x, _, e := syntax.Parse("DELETE FROM t WHERE " + s)
	if e != 0 {
		t.Fatal(s, e)
	}
	return x.Where
}

// equal holds two values against each other in all that they have; lists that are empty and nil are the same.
func equal(a, b api.Value) bool {
	return a.Kind == b.Kind && a.B == b.B && a.N == b.N && a.S == b.S &&
		slices.Equal(a.Names, b.Names) && slices.EqualFunc(a.Parts, b.Parts, equal)
}

// alike holds two expressions against each other in all that they have.
func alike(a, b api.Expr) bool {
	return a.Kind == b.Kind && a.S == b.S && equal(a.V, b.V) &&
		slices.Equal(a.Names, b.Names) && slices.EqualFunc(a.Kids, b.Kids, alike)
}

// partsAre holds the parts of an expression against these.
func partsAre(t *testing.T, x api.Expr, want ...api.Expr) {
	t.Helper()
	if got := Parts(x); !slices.EqualFunc(got, want, alike) {
		t.Errorf("Parts(%v) = %v, want %v", x, got, want)
	}
}

// chosen holds the plan of an expression against a field and a span.
func chosen(t *testing.T, x api.Expr, indexes []string, field string, s api.Span) {
	t.Helper()
	if got := Choose(x, indexes); got != (api.Plan{Field: field, Span: s}) {
		t.Errorf("Choose(%v, %q) = %q, want %q, %q", x, indexes, got, field, s)
	}
}

// from is the keys from a text on, and below another one.
func from(low, high string) api.Span { return api.Span{Low: low, High: high} }

// key is the key of a number; past is the least text above all that begin with it.
func key(n int64) string  { return keys.Of(value.Int(n)) }
func past(n int64) string { return keys.Next(key(n)) }

// spoil changes everything within an expression that can be changed behind its lists.
func spoil(x api.Expr) {
	spoilValue(x.V)
	for i := range x.Names {
		x.Names[i] = "spoilt"
	}
	for i := range x.Kids {
		spoil(x.Kids[i])
		x.Kids[i] = num(99)
	}
}

func spoilValue(v api.Value) {
	for i := range v.Names {
		v.Names[i] = "spoilt"
	}
	for i := range v.Parts {
		spoilValue(v.Parts[i])
		v.Parts[i] = value.Str("spoilt")
	}
}

// kinds is values of each kind, in their order; no two of them are the same.
func kinds() []api.Value {
	a, b := []string{"a"}, []string{"b"}
	return []api.Value{
		value.None(),
		value.Bool(false), value.Bool(true),
		value.Int(-1 << 63), value.Int(-1<<63 + 1), value.Int(-257), value.Int(-1), value.Int(0), value.Int(1), value.Int(255), value.Int(256), value.Int(1<<63 - 1),
		value.Str(""), value.Str("\x00"), value.Str("\x00\x00"), value.Str("\x00\x01"), value.Str("1"), value.Str("x"), value.Str("x\x00"), value.Str("xa"), value.Str("\xff"), value.Str("\xff\xff"),
		value.Bytes(""), value.Bytes("\x00"), value.Bytes("1"), value.Bytes("x"), value.Bytes("\xff"),
		value.List(), value.List(value.None()), value.List(value.Int(1)), value.List(value.Int(1), value.None()), value.List(value.List()),
		value.Struct(nil, nil), value.Struct(a, []api.Value{value.Int(1)}), value.Struct(a, []api.Value{value.Int(2)}), value.Struct(b, []api.Value{value.None()}),
	}
}
