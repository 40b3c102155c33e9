package eval

import (
	"slices"
	"strings"
	"testing"

	"parchment/api"
	"parchment/syntax"
	"parchment/value"
)

// Errors as the chapter tells them.
const (
	noArg   api.Errno = 1
	ofType  api.Errno = 131
	tooMuch api.Errno = 180
)

var (
	truthSigns   = []string{"OR", "AND"}
	compareSigns = []string{"=", "<>", "<", "<=", ">", ">="}
	numberSigns  = []string{"+", "-", "*"}
)

func allSigns() []string { return slices.Concat(truthSigns, compareSigns, numberSigns) }

func lit(v api.Value) api.Expr   { return api.Expr{Kind: 1, V: v} }
func num(n int64) api.Expr       { return lit(api.Value{Kind: 2, N: n}) }
func str(s string) api.Expr      { return lit(api.Value{Kind: 3, S: s}) }
func yes() api.Expr              { return lit(api.Value{Kind: 1, B: true}) }
func no() api.Expr               { return lit(api.Value{Kind: 1}) }
func null() api.Expr             { return lit(api.Value{}) }
func path(s string) api.Expr     { return api.Expr{Kind: 2, S: s} }
func neg(x api.Expr) api.Expr    { return api.Expr{Kind: 3, Kids: []api.Expr{x}} }
func not(x api.Expr) api.Expr    { return api.Expr{Kind: 4, Kids: []api.Expr{x}} }
func isNull(x api.Expr) api.Expr { return api.Expr{Kind: 5, Kids: []api.Expr{x}} }
func list(l ...api.Expr) api.Expr {
	return api.Expr{Kind: 7, Kids: l}
}
func bin(a api.Expr, sign string, b api.Expr) api.Expr {
	return api.Expr{Kind: 6, S: sign, Kids: []api.Expr{a, b}}
}
func fields(names string, l ...api.Expr) api.Expr {
	return api.Expr{Kind: 8, Names: strings.Fields(names), Kids: l}
}

// lost is an expression that has another number of kids than it must.
func lost() api.Expr { return api.Expr{Kind: 4} }

// over is an expression whose number is too great.
func over() api.Expr { return bin(num(9223372036854775807), "+", num(1)) }

// mixed is an expression with a side of another kind.
func mixed() api.Expr { return bin(num(1), "+", str("x")) }

// byErr are the expressions that end with each of the errors.
func byErr() map[api.Errno]api.Expr {
	return map[api.Errno]api.Expr{noArg: lost(), ofType: mixed(), tooMuch: over()}
}

// doc is the document that most tests look at.
func doc() api.Value {
	inner := value.Struct([]string{"c", "d"}, []api.Value{value.Str("x"), value.Struct([]string{"e"}, []api.Value{value.Int(7)})})
	return value.Struct(
		[]string{"a", "b", "l", "n", "y", "f"},
		[]api.Value{value.Int(4), inner, value.List(value.Int(1), value.Str("z")), value.None(), value.Bool(true), value.Bool(false)},
	)
}

// parsed is the expression that a text says.
func parsed(t *testing.T, s string) api.Expr {
	t.Helper()
	x, _, e := syntax.Parse("DELETE FROM t WHERE " + s)
	if e != 0 {
		t.Fatal(s, e)
	}
	return x.Where
}

// equal holds two values against each other in all that they have; lists that are empty and nil are the same.
func equal(a, b api.Value) bool {
	return a.Kind == b.Kind && a.B == b.B && a.N == b.N && a.S == b.S &&
		slices.Equal(a.Names, b.Names) && slices.EqualFunc(a.Parts, b.Parts, equal)
}

// comes holds an expression over a document against its value.
func comes(t *testing.T, x api.Expr, d api.Value, want api.Value) {
	t.Helper()
	if got, e := Eval(x, d); e != 0 || !equal(got, want) {
		t.Errorf("Eval(%v) = %v, %d, want %v", x, got, e, want)
	}
}

// fails holds an expression over a document against an error; Holds tells the same one.
func fails(t *testing.T, x api.Expr, d api.Value, want api.Errno) {
	t.Helper()
	if got, e := Eval(x, d); e != want || !equal(got, api.Value{}) {
		t.Errorf("Eval(%v) = %v, %d, want %d", x, got, e, want)
	}
	if got, e := Holds(x, d); e != want || got {
		t.Errorf("Holds(%v) = %v, %d, want %d", x, got, e, want)
	}
}

// spoil changes everything within a value that can be changed behind its lists.
func spoil(v api.Value) {
	for i := range v.Names {
		v.Names[i] = "spoilt"
	}
	for i := range v.Parts {
		spoil(v.Parts[i])
		v.Parts[i] = value.Str("spoilt")
	}
}

// kinds is values of each kind, in their order; no two of them are the same.
func kinds() []api.Value {
	return []api.Value{
		value.None(),
		value.Bool(false), value.Bool(true),
		value.Int(-1 << 63), value.Int(-1), value.Int(0), value.Int(1), value.Int(1<<63 - 1),
		value.Str(""), value.Str("1"), value.Str("x"),
		value.Bytes(""), value.Bytes("1"), value.Bytes("x"),
		value.List(), value.List(value.None()), value.List(value.Int(1)), value.List(value.Int(1), value.None()),
		value.Struct(nil, nil), value.Struct([]string{"a"}, []api.Value{value.Int(1)}), value.Struct([]string{"b"}, []api.Value{value.None()}),
	}
}
