package eval

import (
	"fmt"
	"math/rand"
	"slices"
	"strings"
	"testing"

	"parchment/api"
	"parchment/value"
)

// model is a second making of Eval: it is run through by panics with the first error.
type model struct{ d api.Value }

func (m model) value(x api.Expr) api.Value {
	switch many := len(x.Kids); {
	case x.Kind == 1 && many == 0:
		return x.V
	case x.Kind == 2 && many == 0:
		return m.down(m.d, strings.Split(x.S, "."))
	case x.Kind == 3 && many == 1:
		return m.number("-", value.Int(0), m.value(x.Kids[0]))
	case x.Kind == 4 && many == 1:
		return value.Bool(!m.truth(x.Kids[0]))
	case x.Kind == 5 && many == 1:
		return value.Bool(value.Same(m.value(x.Kids[0]), value.None()))
	case x.Kind == 6 && many == 2:
		return m.between(x.Kids[0], x.S, x.Kids[1])
	case x.Kind == 7:
		v := value.List()
		for _, kid := range x.Kids {
			v.Parts = append(v.Parts, m.value(kid))
		}
		return v
	case x.Kind == 8 && many == len(x.Names):
		v := value.Struct(nil, nil)
		for i, kid := range x.Kids {
			v = value.With(v, x.Names[i], m.value(kid))
		}
		return v
	}
	panic(noArg)
}

// down is what names lead to, by the first one and then the others.
func (m model) down(v api.Value, names []string) api.Value {
	if len(names) == 0 {
		return v
	}
	return m.down(value.Get(v, names[0]), names[1:])
}

func (m model) truth(x api.Expr) bool {
	v := m.value(x)
	if v.Kind > 1 {
		panic(ofType)
	}
	return v.B
}

func (m model) between(a api.Expr, sign string, b api.Expr) api.Value {
	switch sign {
	case "AND":
		return value.Bool(m.truth(a) && m.truth(b))
	case "OR":
		return value.Bool(m.truth(a) || m.truth(b))
	case "+", "-", "*":
		left := m.value(a)
		return m.number(sign, left, m.value(b))
	}
	says, there := map[string]string{"=": "0", "<>": "-+", "<": "-", "<=": "-0", ">": "+", ">=": "+0"}[sign]
	if !there {
		panic(noArg)
	}
	left := m.value(a)
	order := value.Compare(left, m.value(b))
	return value.Bool(strings.Contains(says, string("-0+"[order+1])))
}

func (m model) number(sign string, a, b api.Value) api.Value {
	for _, v := range []api.Value{a, b} {
		if v.Kind != 0 && v.Kind != 2 {
			panic(ofType)
		}
	}
	if a.Kind+b.Kind < 4 {
		return value.None()
	}
	n, fits := bigNumber(sign, a.N, b.N)
	if !fits {
		panic(tooMuch)
	}
	return value.Int(n)
}

// modelled is what the model makes of a call, and the error with which it ended.
func modelled[T any](call func() T) (out T, e api.Errno) {
	defer func() {
		switch got := recover().(type) {
		case nil:
		case api.Errno:
			e = got
		default:
			panic(got)
		}
	}()
	return call(), 0
}

// held holds Eval and Holds, each called twice, against the model.
func held(t *testing.T, x api.Expr, d api.Value) api.Errno {
	t.Helper()
	m := model{d}
	want, e := modelled(func() api.Value { return m.value(x) })
	holds, f := modelled(func() bool { return x.Kind == 0 || m.truth(x) })
	for range 2 {
		if got, gotE := Eval(x, d); !equal(got, want) || gotE != e {
			t.Fatalf("Eval(%v, %v) = %v, %d, want %v, %d", x, d, got, gotE, want, e)
		}
		if got, gotE := Holds(x, d); got != holds || gotE != f {
			t.Fatalf("Holds(%v, %v) = %v, %d, want %v, %d", x, d, got, gotE, holds, f)
		}
	}
	return e
}

// leaves are the least expressions of each kind, and some that may not be.
func leaves() []api.Expr {
	return []api.Expr{
		null(), no(), yes(), num(0), num(-3), num(1<<63 - 1), num(-1 << 63), str("x"), lit(value.Bytes("x")), list(), fields(""),
		path("a"), path("b"), path("b.c"), path("b.d.e"), path("n"), path("y"), path("z"), path(""), {}, lost(), over(), mixed(),
	}
}

// Promise 18.1: all expressions of one and two kids over the least ones are as the model has them.
func TestAllSmallExpressions(t *testing.T) {
	for _, a := range leaves() {
		held(t, a, doc())
		for _, x := range []api.Expr{neg(a), not(a), isNull(a), list(a), fields("q", a)} {
			held(t, x, doc())
		}
		for _, b := range leaves() {
			for _, sign := range append(allSigns(), "%") {
				held(t, bin(a, sign, b), doc())
				held(t, not(bin(neg(a), sign, b)), doc())
				held(t, bin(a, sign, isNull(b)), doc())
			}
			held(t, list(a, b), doc())
			held(t, fields("q p", a, b), doc())
			held(t, fields("q q", a, b), doc())
			held(t, fields("q", a, b), doc())
		}
	}
}

// grown is an expression at random, of at most so many within one another.
func grown(r *rand.Rand, deep int) api.Expr {
	if l := leaves(); deep <= 1 {
		// What may not be comes seldom, so that there is something behind it.
		return l[min(r.Intn(len(l)), r.Intn(6*len(l)))]
	}
	kid := func() api.Expr { return grown(r, deep-1-r.Intn(2)) }
	switch r.Intn(12) {
	case 0:
		return neg(kid())
	case 1:
		return not(kid())
	case 2:
		return isNull(kid())
	case 3:
		return list(kid(), kid(), kid())
	case 4:
		return fields([]string{"a b c", "c a b", "b a b"}[r.Intn(3)], kid(), kid(), kid())
	case 5, 6:
		return bin(kid(), truthSigns[r.Intn(2)], kid())
	case 7, 8, 9:
		return bin(kid(), compareSigns[r.Intn(6)], kid())
	}
	return bin(kid(), numberSigns[r.Intn(3)], kid())
}

// Promise 18.1: great expressions, at random, are as the model has them, over several documents.
func TestAtRandom(t *testing.T) {
	r := rand.New(rand.NewSource(18))
	docs := []api.Value{doc(), value.Struct(nil, nil), value.None(), value.With(doc(), "a", value.Str("x")), value.With(doc(), "y", value.Int(1))}
	ends := map[string]int{}
	for range 40000 {
		x := grown(r, 1+r.Intn(6))
		e := held(t, x, docs[r.Intn(len(docs))])
		ends[fmt.Sprint(e)]++
	}
	for _, e := range []string{"0", "1", "131", "180"} {
		if ends[e] < 300 {
			t.Errorf("too few end with %s: %v", e, ends)
		}
	}
	if len(ends) != 4 {
		t.Error(ends)
	}
}

// T5: expressions of any kind, sign and number of kids end with an answer, or with one of the chapter's errors, as the model has it.
func TestNoExpressions(t *testing.T) {
	kids := []api.Expr{yes(), num(1), null()}
	for kind := -2; kind < 12; kind++ {
		for many := range 4 {
			for _, sign := range append(allSigns(), "", "%", "IS", "a") {
				for _, names := range []string{"", "a", "a b", "b a b"} {
					x := api.Expr{Kind: kind, S: sign, Kids: kids[:many], Names: strings.Fields(names)}
					for _, x := range []api.Expr{x, neg(x), list(x), bin(yes(), "AND", x), bin(no(), "AND", x)} {
						if e := held(t, x, doc()); !slices.Contains([]api.Errno{0, noArg, ofType, tooMuch}, e) {
							t.Errorf("%v: %d", x, e)
						}
					}
				}
			}
		}
	}
}
