package eval

import (
	"slices"
	"testing"

	"parchment/api"
	"parchment/value"
)

// Promise 18.1: a literal is its value, over any document.
func TestLiterals(t *testing.T) {
	for _, v := range append(kinds(), doc()) {
		for _, d := range append(kinds(), doc()) {
			comes(t, lit(v), d, v)
		}
	}
}

// Promise 18.1: lists and structs of what their parts come to; of structs the names rise.
func TestListsAndStructs(t *testing.T) {
	comes(t, list(), doc(), api.Value{Kind: 5})
	comes(t, fields(""), doc(), api.Value{Kind: 6})
	comes(t, api.Expr{Kind: 7, Kids: []api.Expr{}}, doc(), api.Value{Kind: 5})
	comes(t, api.Expr{Kind: 8, Kids: []api.Expr{}, Names: []string{}}, doc(), api.Value{Kind: 6})
	one, four, seven := value.Int(1), value.Int(4), value.Int(7)
	comes(t, parsed(t, "[1]"), doc(), api.Value{Kind: 5, Parts: []api.Value{one}})
	comes(t, parsed(t, "[b.d.e, 1, z, 1, a]"), doc(), api.Value{Kind: 5, Parts: []api.Value{seven, one, {}, one, four}})
	comes(t, parsed(t, "[1 + a * 2, NOT y, a = 4, -a, a IS NULL]"), doc(), value.List(value.Int(9), value.Bool(false), value.Bool(true), value.Int(-4), value.Bool(false)))
	comes(t, parsed(t, "[[], [[1]], {}]"), doc(), value.List(value.List(), value.List(value.List(one)), value.Struct(nil, nil)))
	comes(t, parsed(t, "{a: 1}"), doc(), api.Value{Kind: 6, Names: []string{"a"}, Parts: []api.Value{one}})
	comes(t, parsed(t, "{z: a, b: b.d.e, Z: 1, y: z}"), doc(), api.Value{Kind: 6, Names: []string{"Z", "b", "y", "z"}, Parts: []api.Value{one, seven, {}, four}})
	comes(t, parsed(t, "{q: {p: 1 + a, o: [z]}, c: b}"), doc(), value.Struct([]string{"q", "c"}, []api.Value{
		value.Struct([]string{"p", "o"}, []api.Value{value.Int(5), value.List(value.None())}), Path(doc(), "b"),
	}))
	comes(t, fields("a b a", num(1), num(2), num(3)), doc(), value.Struct([]string{"a", "b"}, []api.Value{value.Int(3), value.Int(2)}))
}

// Promise 18.1: names of a path are those of the document, also within lists and structs of the expression.
func TestPathsStayThoseOfTheDocument(t *testing.T) {
	comes(t, parsed(t, "{a: 1, q: a}"), doc(), value.Struct([]string{"a", "q"}, []api.Value{value.Int(1), value.Int(4)}))
	comes(t, parsed(t, "{x: {y: y}}"), doc(), value.Struct([]string{"x"}, []api.Value{value.Struct([]string{"y"}, []api.Value{value.Bool(true)})}))
}

// Promise 18.1: IS NULL of any value.
func TestIsNull(t *testing.T) {
	for _, v := range append(kinds(), api.Value{Kind: 7}) {
		comes(t, isNull(lit(v)), doc(), value.Bool(v.Kind == 0))
		comes(t, not(isNull(lit(v))), doc(), value.Bool(v.Kind != 0))
	}
	for s, want := range map[string]bool{"a": false, "n": true, "z": true, "a.z": true, "b.c": false, "z + 1": true, "z = 1": false, "NOT z": false, "z AND z": false, "[z]": false, "-z": true} {
		comes(t, isNull(parsed(t, s)), doc(), value.Bool(want))
	}
}

// Promise 18.1: NOT of what counts as yes or no.
func TestNot(t *testing.T) {
	for _, v := range append(kinds(), api.Value{Kind: 7}) {
		switch v.Kind {
		case 0, 1:
			comes(t, not(lit(v)), doc(), value.Bool(!v.B))
			comes(t, not(not(lit(v))), doc(), value.Bool(v.B))
		default:
			fails(t, not(lit(v)), doc(), 131)
		}
	}
}

// Promise 18.1: AND and OR of all that counts as yes or no come to yes or no.
func TestAndOr(t *testing.T) {
	for _, a := range []api.Expr{null(), no(), yes()} {
		for _, b := range []api.Expr{null(), no(), yes()} {
			comes(t, bin(a, "AND", b), doc(), value.Bool(a.V.B && b.V.B))
			comes(t, bin(a, "OR", b), doc(), value.Bool(a.V.B || b.V.B))
		}
	}
}

// Promise 18.1: the right side is not looked at, where the left one says it.
func TestRightSideIsNotLookedAt(t *testing.T) {
	wrong := []api.Expr{num(1), str("x"), list(), {}, {Kind: 9}, bin(yes(), "XOR", yes())}
	for _, x := range byErr() {
		wrong = append(wrong, x)
	}
	for _, x := range wrong {
		_, e := Eval(x, doc())
		if e == 0 {
			e = ofType
		}
		comes(t, bin(no(), "AND", x), doc(), value.Bool(false))
		comes(t, bin(null(), "AND", x), doc(), value.Bool(false))
		comes(t, bin(yes(), "OR", x), doc(), value.Bool(true))
		fails(t, bin(yes(), "AND", x), doc(), e)
		fails(t, bin(no(), "OR", x), doc(), e)
		fails(t, bin(null(), "OR", x), doc(), e)
		for _, sign := range truthSigns {
			fails(t, bin(x, sign, yes()), doc(), e)
			fails(t, bin(x, sign, no()), doc(), e)
			fails(t, bin(x, sign, null()), doc(), e)
		}
		// From the left: the whole left chain says it, or goes on.
		comes(t, bin(bin(yes(), "AND", no()), "AND", x), doc(), value.Bool(false))
		comes(t, bin(bin(no(), "OR", yes()), "OR", x), doc(), value.Bool(true))
		comes(t, bin(bin(no(), "AND", x), "OR", yes()), doc(), value.Bool(true))
		fails(t, bin(bin(no(), "AND", x), "OR", x), doc(), e)
		comes(t, not(bin(null(), "AND", list(x))), doc(), value.Bool(true))
	}
}

// Promise 18.1: a left side that is neither yes nor no is told ahead of anything in the right one.
func TestLeftSideFirst(t *testing.T) {
	for _, sign := range truthSigns {
		for _, x := range byErr() {
			fails(t, bin(num(1), sign, x), doc(), 131)
			fails(t, bin(path("b"), sign, x), doc(), 131)
		}
	}
}

// Promise 18.1: comparisons of any two values, by their order.
func TestComparisons(t *testing.T) {
	for i, a := range kinds() {
		for k, b := range kinds() {
			for sign, want := range map[string]bool{"=": i == k, "<>": i != k, "<": i < k, "<=": i <= k, ">": i > k, ">=": i >= k} {
				comes(t, bin(lit(a), sign, lit(b)), doc(), value.Bool(want))
			}
		}
	}
	for s, want := range map[string]bool{
		"a = 4": true, "4 = a": true, "a <> 4": false, "a < 5": true, "5 < a": false, "a <= 4": true, "a >= 5": false, "a > 3": true,
		"z = NULL": true, "z = n": true, "z < a": true, "z <> NULL": false, "a > NULL": true, "z < FALSE": true,
		"b.c = 'x'": true, "b.c = x'78'": false, "b.c < x'00'": true, "l = [1, 'z']": true, "l < [1, 'z', NULL]": true, "l > [1]": true,
		"b = {d: {e: 7}, c: 'x'}": true, "b.d >= {e: 8}": false, "b.d < {f: 0}": true, "[a] < 4": false, "'4' > a": true, "TRUE < a": true,
		"(a = 4) = y": true, "(a = 4) > f": true, "a + 1 = 5": true, "a * -1 < 0": true,
	} {
		comes(t, parsed(t, s), doc(), value.Bool(want))
	}
}

// Promise 18.1: an expression that has another number of kids than it must, or is of no kind, is ErrArg.
func TestNumberOfKids(t *testing.T) {
	must := map[int]int{1: 0, 2: 0, 3: 1, 4: 1, 5: 1, 6: 2}
	kids := []api.Expr{yes(), yes(), yes()}
	for kind := -2; kind < 12; kind++ {
		for many := range 4 {
			for _, sign := range append(allSigns(), "", "%", "IS", "and", "==") {
				x := api.Expr{Kind: kind, S: sign, Kids: kids[:many], Names: []string{"a", "b"}}
				want, there := must[kind]
				right := there && many == want || kind == 7 || kind == 8 && many == 2
				if kind == 6 && !slices.Contains(allSigns(), sign) {
					right = false
				}
				if _, e := Eval(x, doc()); right == (e == noArg) {
					t.Errorf("kind %d, %q, %d kids: %d", kind, sign, many, e)
				}
				// Within another one: alone, one of Kind 0 is none for Holds.
				if !right {
					fails(t, isNull(x), doc(), 1)
				}
			}
		}
	}
	for names := range 4 {
		for many := range 4 {
			x := api.Expr{Kind: 8, Names: []string{"a", "b", "c"}[:names], Kids: kids[:many]}
			if _, e := Eval(x, doc()); (e == noArg) == (names == many) {
				t.Errorf("%d names, %d kids: %d", names, many, e)
			}
		}
	}
}

// Promise 18.1: what an expression lacks itself is told ahead of what its kids lack; they are not looked at.
func TestOwnKidsFirst(t *testing.T) {
	for _, x := range []api.Expr{over(), mixed()} {
		for _, sign := range allSigns() {
			fails(t, api.Expr{Kind: 6, S: sign, Kids: []api.Expr{x}}, doc(), 1)
			fails(t, api.Expr{Kind: 6, S: sign, Kids: []api.Expr{x, x, x}}, doc(), 1)
		}
		for _, kind := range []int{1, 2, 3, 4, 5, 8, 9} {
			fails(t, api.Expr{Kind: kind, Kids: []api.Expr{x, x}}, doc(), 1)
		}
		fails(t, bin(x, "%", x), doc(), 1)
	}
}

// Promise 18.1: sides and parts from the left; the first error counts, ahead of the expression's own.
func TestFirstError(t *testing.T) {
	for first, a := range byErr() {
		fails(t, neg(a), doc(), first)
		fails(t, not(a), doc(), first)
		fails(t, isNull(a), doc(), first)
		fails(t, list(num(1), a, num(1)), doc(), first)
		fails(t, fields("c b a", num(1), a, num(1)), doc(), first)
		for _, sign := range slices.Concat(numberSigns, compareSigns) {
			fails(t, bin(a, sign, num(1)), doc(), first)
			fails(t, bin(num(1), sign, a), doc(), first)
			// One side is of a kind that numbers' signs do not take: that is the sign's own error.
			fails(t, bin(a, sign, str("x")), doc(), first)
			fails(t, bin(str("x"), sign, a), doc(), first)
			fails(t, bin(null(), sign, a), doc(), first)
		}
		for _, b := range byErr() {
			for _, sign := range allSigns() {
				fails(t, bin(a, sign, b), doc(), first)
			}
			fails(t, list(a, b), doc(), first)
			fails(t, list(num(1), list(a), b), doc(), first)
			// As they are written, not as their names rise.
			fails(t, fields("b a", a, b), doc(), first)
			fails(t, fields("a b", a, b), doc(), first)
		}
	}
}

// Promise 18.1: expressions as they are written.
func TestTexts(t *testing.T) {
	for s, want := range map[string]api.Value{
		"a":                                 value.Int(4),
		"b.c":                               value.Str("x"),
		"z.z.z":                             value.None(),
		"1 + 2 * 3 - 4":                     value.Int(3),
		"(1 + 2) * (3 - 4)":                 value.Int(-3),
		"a * a - a":                         value.Int(12),
		"a - a - a":                         value.Int(-4),
		"-a * -a":                           value.Int(16),
		"a + n":                             value.None(),
		"z * 0":                             value.None(),
		"NULL - NULL":                       value.None(),
		"NULL = NULL":                       value.Bool(true),
		"a = 4 AND b.c = 'x'":               value.Bool(true),
		"a = 1 OR b.c = 'x' AND NOT f":      value.Bool(true),
		"a = 1 OR b.c = 'x' AND f":          value.Bool(false),
		"NOT a = 4":                         value.Bool(false),
		"NOT z AND NOT n":                   value.Bool(true),
		"a = 4 IS NULL":                     value.Bool(false),
		"a IS NOT NULL AND a > 3":           value.Bool(true),
		"z IS NOT NULL AND z + 'x' = 1":     value.Bool(false),
		"z IS NULL OR z + 'x' = 1":          value.Bool(true),
		"9223372036854775807 - 1 + 1":       value.Int(9223372036854775807),
		"-9223372036854775807 - 1":          value.Int(-9223372036854775808),
		"[a, b.c, z] = [4, 'x', NULL]":      value.Bool(true),
		"{c: b.c, d: {e: 7}} = b":           value.Bool(true),
		"[1 = 1, NOT NULL, NULL AND 'x']":   value.List(value.Bool(true), value.Bool(true), value.Bool(false)),
		"x'00ff' = x'00ff' AND 'a' < x'00'": value.Bool(true),
	} {
		comes(t, parsed(t, s), doc(), want)
	}
	for s, want := range map[string]api.Errno{
		"a + 'x'":                               131,
		"n + 'x'":                               131,
		"'x' - z":                               131,
		"b.c * 2":                               131,
		"-b":                                    131,
		"-l + z":                                131,
		"y + 1":                                 131,
		"a AND y":                               131,
		"y AND a":                               131,
		"f OR b.c":                              131,
		"NOT a":                                 131,
		"NOT (a = 4) + 1":                       131,
		"a + 9223372036854775807":               180,
		"-a - 9223372036854775807":              180,
		"a * 9223372036854775807":               180,
		"y AND a + 9223372036854775807 = 1":     180,
		"[a + 9223372036854775807, -'x']":       180,
		"[-'x', a + 9223372036854775807]":       131,
		"-'x' = a + 9223372036854775807":        131,
		"'x' + (a + 9223372036854775807)":       180,
		"{b: a + 9223372036854775807, a: -'x'}": 180,
	} {
		fails(t, parsed(t, s), doc(), want)
	}
}
