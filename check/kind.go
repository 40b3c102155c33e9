package check

import (
	"parchment/api"
)

// Kind is the kind of value that an expression comes to; KindAny, if that is not known ahead. fields: there is a document.
func Kind(x api.Expr, fields bool) (int, api.Errno) {
	kids, e := kinds(x.Kids, fields)
	if e != api.OK {
		return 0, e
	}
	if x.Kind == api.ExprStruct && twice(x.Names) {
		return 0, api.ErrTwice
	}
	if !formed(x) {
		return 0, api.ErrType
	}
	switch x.Kind {
	case api.ExprLit:
		return x.V.Kind, api.OK
	case api.ExprField:
		return field(fields)
	case api.ExprNeg:
		return number(kids)
	case api.ExprNot:
		return truth(kids)
	case api.ExprIsNull:
		return api.Bool, api.OK
	case api.ExprBin:
		return sides(x.S, kids)
	case api.ExprList:
		return api.List, api.OK
	case api.ExprStruct:
		return api.Struct, api.OK
	}
	return 0, api.ErrType
}

// kinds is the kinds of expressions; the error of the first one that has one.
func kinds(l []api.Expr, fields bool) ([]int, api.Errno) {
	var out []int
	for _, x := range l {
		kind, e := Kind(x, fields)
		if e != api.OK {
			return nil, e
		}
		out = append(out, kind)
	}
	return out, api.OK
}

// formed tells whether an expression has as many kids as one of its kind must.
func formed(x api.Expr) bool {
	switch x.Kind {
	case api.ExprLit, api.ExprField:
		return len(x.Kids) == 0
	case api.ExprNeg, api.ExprNot, api.ExprIsNull:
		return len(x.Kids) == 1
	case api.ExprBin:
		return len(x.Kids) == 2
	case api.ExprStruct:
		return len(x.Kids) == len(x.Names)
	}
	return true
}

func field(fields bool) (int, api.Errno) {
	if !fields {
		return 0, api.ErrScope
	}
	return api.KindAny, api.OK
}

// sides is the kind of a sign between two sides.
func sides(sign string, kids []int) (int, api.Errno) {
	switch sign {
	case "OR", "AND":
		return truth(kids)
	case "=", "<>", "<", "<=", ">", ">=":
		return api.Bool, api.OK
	case "+", "-", "*":
		return number(kids)
	}
	return 0, api.ErrType
}

// truth is the kind of what takes yes and no.
func truth(kids []int) (int, api.Errno) {
	for _, kind := range kids {
		if !takes(api.Bool, kind) {
			return 0, api.ErrType
		}
	}
	return api.Bool, api.OK
}

// number is the kind of what takes numbers.
func number(kids []int) (int, api.Errno) {
	out := api.Int
	for _, kind := range kids {
		if !takes(api.Int, kind) {
			return 0, api.ErrType
		}
		// Of NULL it comes to NULL, and a field may be that.
		if kind != api.Int {
			out = api.KindAny
		}
	}
	return out, api.OK
}

// takes tells whether a kind may stand where one is asked for: NULL may everywhere, and what is not known ahead may be right.
func takes(asked, kind int) bool {
	return kind == asked || kind == api.Null || kind == api.KindAny
}
