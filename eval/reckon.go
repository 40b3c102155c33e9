package eval

import (
	"parchment/api"
	"parchment/value"
)

// What signs between two sides ask for.
const (
	noSign = iota
	truthSign
	orderSign
	numberSign
)

// neverRight is a number of kids that no expression has.
const neverRight = -1

// reckon is an expression's value, which may share lists with the expression and the document; beside an error it means nothing.
func reckon(x api.Expr, d api.Value) (api.Value, api.Errno) {
	if len(x.Kids) != kidsOf(x) {
		return api.Value{}, api.ErrArg
	}
	// Ahead of all others: its right side may not be looked at.
	if x.Kind == api.ExprBin && asks(x.S) == truthSign {
		b, e := joined(x, d)
		return value.Bool(b), e
	}
	kids, e := all(x.Kids, d)
	if e != api.OK {
		return api.Value{}, e
	}
	switch x.Kind {
	case api.ExprLit:
		return x.V, api.OK
	case api.ExprField:
		return part(d, x.S), api.OK
	case api.ExprList:
		return api.Value{Kind: api.List, Parts: kids}, api.OK
	case api.ExprStruct:
		return structure(x.Names, kids), api.OK
	}
	return signed(x, kids)
}

// signed is the value of an expression that is a sign with one or two kids.
func signed(x api.Expr, kids []api.Value) (api.Value, api.Errno) {
	switch x.Kind {
	case api.ExprNeg:
		return number("-", value.Int(0), kids[0])
	case api.ExprNot:
		b, e := Truth(kids[0])
		return value.Bool(!b), e
	case api.ExprIsNull:
		return value.Bool(kids[0].Kind == api.Null), api.OK
	}
	if asks(x.S) == numberSign {
		return number(x.S, kids[0], kids[1])
	}
	return value.Bool(ordered(x.S, value.Compare(kids[0], kids[1]))), api.OK
}

// kidsOf is how many kids an expression must have; one that is of no kind, or has no such sign, is wrong with any.
func kidsOf(x api.Expr) int {
	switch x.Kind {
	case api.ExprLit, api.ExprField:
		return 0
	case api.ExprNeg, api.ExprNot, api.ExprIsNull:
		return 1
	case api.ExprList:
		return len(x.Kids)
	case api.ExprStruct:
		return len(x.Names)
	case api.ExprBin:
		if asks(x.S) != noSign {
			return 2
		}
	}
	return neverRight
}

// asks is what a sign asks for.
func asks(sign string) int {
	switch sign {
	case "OR", "AND":
		return truthSign
	case "=", "<>", "<", "<=", ">", ">=":
		return orderSign
	case "+", "-", "*":
		return numberSign
	}
	return noSign
}

// joined tells what AND or OR comes to: a left side that is yes says OR, one that is no says AND.
func joined(x api.Expr, d api.Value) (bool, api.Errno) {
	left, e := truth(x.Kids[0], d)
	if e != api.OK || left == (x.S == "OR") {
		return left, e
	}
	return truth(x.Kids[1], d)
}

// all is the values of expressions, from the left; the error of the first one that has one.
func all(l []api.Expr, d api.Value) ([]api.Value, api.Errno) {
	var out []api.Value
	for _, x := range l {
		v, e := reckon(x, d)
		if e != api.OK {
			return nil, e
		}
		out = append(out, v)
	}
	return out, api.OK
}

// structure is a struct of parts. value.Struct puts only their places in order, and each part is laid at its own afterwards: it copies what it is given, so that structs within one another would be copied again by each that stands around them.
func structure(names []string, parts []api.Value) api.Value {
	var places []api.Value
	for i := range parts {
		places = append(places, value.Int(int64(i)))
	}
	v := value.Struct(names, places)
	for i, place := range v.Parts {
		v.Parts[i] = parts[place.N]
	}
	return v
}

// ordered tells whether a comparison's sign says an order: below 0, 0, above 0.
func ordered(sign string, order int) bool {
	switch sign {
	case "=":
		return order == 0
	case "<>":
		return order != 0
	case "<":
		return order < 0
	case "<=":
		return order <= 0
	case ">":
		return order > 0
	}
	return order >= 0
}
