package plan

import (
	"slices"

	"parchment/api"
)

// noExpr is the Kind of an expression that is not there.
const noExpr = 0

// joined lays what AND joins in an expression behind others, as it stands there.
func joined(l []api.Expr, x api.Expr) []api.Expr {
	switch {
	case x.Kind == noExpr:
		return l
	case x.Kind == api.ExprBin && x.S == "AND" && len(x.Kids) == 2:
		return joined(joined(l, x.Kids[0]), x.Kids[1])
	}
	return append(l, x)
}

// said is the field and the span that a part says; an empty field: it says none.
func said(part api.Expr) api.Plan {
	if part.Kind != api.ExprBin || len(part.Kids) != 2 {
		return api.Plan{}
	}
	field, sign, literal := part.Kids[0], part.S, part.Kids[1]
	if field.Kind == api.ExprLit {
		field, sign, literal = literal, turned(sign), field
	}
	if field.Kind != api.ExprField || literal.Kind != api.ExprLit {
		return api.Plan{}
	}
	span, ok := Span(sign, literal.V)
	if !ok {
		return api.Plan{}
	}
	return api.Plan{Field: field.S, Span: span}
}

// turned is the sign that says the same when the sides change places.
func turned(sign string) string {
	switch sign {
	case "<":
		return ">"
	case "<=":
		return ">="
	case ">":
		return "<"
	case ">=":
		return "<="
	}
	return sign
}

// own is an expression with lists that nobody else has.
func own(x api.Expr) api.Expr {
	x.V, x.Kids, x.Names = ownValue(x.V), each(x.Kids, own), slices.Clone(x.Names)
	return x
}

// ownValue is a value with lists that nobody else has.
func ownValue(v api.Value) api.Value {
	v.Parts, v.Names = each(v.Parts, ownValue), slices.Clone(v.Names)
	return v
}

// each is what a function makes of each thing of a list.
func each[A, B any](l []A, of func(A) B) []B {
	var out []B
	for _, a := range l {
		out = append(out, of(a))
	}
	return out
}
