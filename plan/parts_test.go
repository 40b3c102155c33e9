package plan

import (
	"math/rand"
	"slices"
	"testing"

	"parchment/api"
	"parchment/eval"
	"parchment/value"
)

// Promise 19.1: of Kind 0 there is nothing, whatever else the expression has.
func TestPartsOfNone(t *testing.T) {
	for _, x := range []api.Expr{
		{},
		{S: "AND"},
		{V: value.Bool(true)},
		{Kids: []api.Expr{num(1), num(2)}},
		{S: "AND", Kids: []api.Expr{path("a"), path("b")}, Names: []string{"a", "b"}},
	} {
		if got := Parts(x); len(got) != 0 {
			t.Errorf("Parts(%v) = %v", x, got)
		}
	}
}

// Promise 19.1: what is not joined by AND is one part, whole, also where AND stands within it.
func TestPartsOfOne(t *testing.T) {
	both := and(path("a"), path("b"))
	for _, x := range []api.Expr{
		num(1), lit(value.Bool(true)), lit(value.None()), lit(value.Str("AND")), path("a"), path("a.b.c"), path("AND"),
		neg(both), not(both), isNull(both), not(not(both)), list(both, both), list(), fields("a b", both, num(1)), fields(""),
		bin(both, "OR", both), bin(both, "=", both), bin(both, "<>", path("c")), bin(both, "+", num(1)), bin(num(1), "*", both),
		bin(path("a"), "and", path("b")), bin(path("a"), "", path("b")),
		{Kind: 7, S: "AND", Kids: []api.Expr{num(1), num(2)}},
		{Kind: 8, S: "AND", Kids: []api.Expr{num(1), num(2)}, Names: []string{"a", "b"}},
	} {
		partsAre(t, x, x)
	}
}

// Promise 19.1: what AND joins, from the left, as it is written.
func TestPartsOfTexts(t *testing.T) {
	for s, parts := range map[string][]string{
		"a":                                       {"a"},
		"a AND b":                                 {"a", "b"},
		"b AND a":                                 {"b", "a"},
		"a AND a":                                 {"a", "a"},
		"a AND b AND c":                           {"a", "b", "c"},
		"a AND (b AND c)":                         {"a", "b", "c"},
		"(a AND b) AND (c AND d)":                 {"a", "b", "c", "d"},
		"a AND (b AND (c AND d) AND e) AND f":     {"a", "b", "c", "d", "e", "f"},
		"a = 1 AND b <> 2 AND 3 < c.d":            {"a = 1", "b <> 2", "3 < c.d"},
		"a AND (b OR c)":                          {"a", "b OR c"},
		"a AND b OR c":                            {"a AND b OR c"},
		"a OR b AND c":                            {"a OR b AND c"},
		"(a OR b AND c) AND d":                    {"a OR b AND c", "d"},
		"NOT a AND b":                             {"NOT a", "b"},
		"NOT (a AND b)":                           {"NOT (a AND b)"},
		"NOT (a AND b) AND c":                     {"NOT (a AND b)", "c"},
		"(a AND b) IS NULL AND c":                 {"(a AND b) IS NULL", "c"},
		"(a AND b) = (c AND d) AND e":             {"(a AND b) = (c AND d)", "e"},
		"[a AND b] = [c] AND {x: d AND e} = f":    {"[a AND b] = [c]", "{x: d AND e} = f"},
		"TRUE AND NULL AND FALSE":                 {"TRUE", "NULL", "FALSE"},
		"a = 'x AND y' AND b":                     {"a = 'x AND y'", "b"},
		"a + 'x' = 1 AND 9223372036854775807 > a": {"a + 'x' = 1", "9223372036854775807 > a"},
	} {
		var want []api.Expr
		for _, part := range parts {
			want = append(want, parsed(t, part))
		}
		partsAre(t, parsed(t, s), want...)
	}
}

// tree is expressions that AND joins, in brackets at random.
func tree(r *rand.Rand, l []api.Expr) api.Expr {
	if len(l) == 1 {
		return l[0]
	}
	at := 1 + r.Intn(len(l)-1)
	return and(tree(r, l[:at]), tree(r, l[at:]))
}

// Promise 19.1: however the ANDs are grouped, the parts are those that they join, from the left.
func TestPartsOfTrees(t *testing.T) {
	r := rand.New(rand.NewSource(19))
	some := []api.Expr{num(1), path("a"), bin(path("a"), "=", num(3)), bin(path("b"), "OR", path("c")), not(and(path("a"), path("b"))), list(and(path("c"), path("d"))), isNull(path("n"))}
	for range 2000 {
		want := make([]api.Expr, 1+r.Intn(12))
		for i := range want {
			want[i] = some[r.Intn(len(some))]
		}
		partsAre(t, tree(r, want), want...)
	}
}

// Promise 19.1: an expression holds just where all of its parts hold.
func TestPartsHoldTogether(t *testing.T) {
	d := value.Struct([]string{"a", "b", "y", "f"}, []api.Value{value.Int(4), value.Str("x"), value.Bool(true), value.Bool(false)})
	some := []string{"a = 4", "a < 4", "b = 'x'", "y", "f", "z", "NOT f", "z IS NULL", "(f OR y)", "4 >= a"}
	for _, first := range some {
		for _, second := range some {
			for _, third := range some {
				x := parsed(t, first+" AND ("+second+" AND "+third+")")
				all := true
				for _, part := range Parts(x) {
					holds, e := eval.Holds(part, d)
					if e != 0 {
						t.Fatal(part, e)
					}
					all = all && holds
				}
				if got, e := eval.Holds(x, d); got != all || e != 0 {
					t.Errorf("%v: %v, %d, want %v", x, got, e, all)
				}
			}
		}
	}
}

// great is an expression that has lists wherever there may be some.
func great() api.Expr {
	v := value.Struct([]string{"a", "b"}, []api.Value{value.List(value.Int(1), value.List(value.Str("x"))), value.None()})
	return and(
		and(bin(path("a"), "=", lit(v)), not(list(path("b"), lit(v), list(num(1))))),
		and(fields("q p", bin(lit(v), "<", path("b")), fields("r", lit(v))), lit(v)),
	)
}

// R2: what is done to the parts changes neither the expression, nor what is answered later, nor another part.
func TestPartsAreTheCallersOwn(t *testing.T) {
	x, was := great(), great()
	want := Parts(was)
	if len(want) != 4 {
		t.Fatal(want)
	}
	for i := range want {
		got := Parts(x)
		spoil(got[i])
		got[i] = num(98)
		if !alike(x, was) {
			t.Fatalf("part %d: the expression is changed: %v", i, x)
		}
		for k := range want {
			if k != i && !alike(got[k], want[k]) {
				t.Errorf("part %d changes part %d: %v", i, k, got[k])
			}
		}
	}
	partsAre(t, x, want...)
}

// R2: an expression that is changed later changes no part that was answered.
func TestExpressionIsChangedLater(t *testing.T) {
	want := Parts(great())
	x := great()
	got := Parts(x)
	spoil(x)
	if !slices.EqualFunc(got, want, alike) {
		t.Errorf("%v, want %v", got, want)
	}
	one := list(num(1), fields("a", num(2)))
	l := Parts(one)
	spoil(one)
	if !alike(l[0], list(num(1), fields("a", num(2)))) {
		t.Error(l)
	}
}

// R2: parts that stand in the expression with the same lists have lists of their own in the answer.
func TestPartsShareNothing(t *testing.T) {
	kid := bin(path("a"), "=", lit(value.List(value.Int(1))))
	twice := []api.Expr{kid, kid}
	got := Parts(api.Expr{Kind: 6, S: "AND", Kids: twice})
	spoil(got[0])
	if want := bin(path("a"), "=", lit(value.List(value.Int(1)))); !alike(got[1], want) || !alike(kid, want) {
		t.Errorf("%v, %v, want %v", got[1], kid, want)
	}
	same := value.List(value.List(value.Int(1)))
	v := value.List()
	v.Parts = []api.Value{same, same}
	one := Parts(list(lit(v), lit(v)))
	spoilValue(one[0].Kids[0].V.Parts[0])
	want := value.List(value.List(value.Int(1)))
	if !equal(one[0].Kids[0].V.Parts[1], want) || !equal(one[0].Kids[1].V.Parts[0], want) || !equal(same, want) {
		t.Error(one, same)
	}
}

// deep is so many comparisons that AND joins, grouped from the left or from the right.
func deep(many int, left bool) api.Expr {
	x := bin(path("a"), ">", num(0))
	for i := 1; i < many; i++ {
		next := bin(path("a"), ">", num(int64(i)))
		if left {
			x = and(x, next)
		} else {
			x = and(next, x)
		}
	}
	return x
}

// R1: what is nested as deeply as it may be ends, and takes no longer than it is great.
func TestDeep(t *testing.T) {
	const many = 1<<16 - 8
	for _, left := range []bool{true, false} {
		x := deep(many, left)
		got := Parts(x)
		if len(got) != many {
			t.Fatalf("%d parts", len(got))
		}
		for i, part := range got {
			n := int64(i)
			if !left {
				n = many - 1 - n
			}
			if !alike(part, bin(path("a"), ">", num(n))) {
				t.Fatalf("part %d: %v", i, part)
			}
		}
		chosen(t, x, []string{"b", "a"}, "a", from(past(many-1), ""))
		chosen(t, x, []string{"b"}, "", api.Span{})
	}
	x, v := path("a"), value.None()
	for range many {
		x = not(x)
		v = api.Value{Kind: 5, Parts: []api.Value{v}}
	}
	if got := Parts(and(x, lit(v))); len(got) != 2 || got[0].Kind != 4 || got[1].V.Kind != 5 {
		t.Error(len(got))
	}
	if got := Choose(and(x, bin(lit(v), "<", path("a"))), []string{"a"}); got.Field != "a" || len(got.Span.Low) < 2*many || got.Span.High != "" {
		t.Errorf("%s, %d, %d", got.Field, len(got.Span.Low), len(got.Span.High))
	}
}
