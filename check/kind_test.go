package check

import (
	"fmt"
	"math"
	"math/rand"
	"strings"
	"testing"

	"parchment/api"
	"parchment/syntax"
)

// Numbers as the chapters tell them.
const (
	free   = -1
	null   = 0
	truths = 1
	ints   = 2
	strs   = 3
	octets = 4
	lists  = 5
	docs   = 6

	noTable = 130
	ofType  = 131
	noScope = 132
	isTwice = 133
)

var (
	truthSigns   = []string{"OR", "AND"}
	compareSigns = []string{"=", "<>", "<", "<=", ">", ">="}
	numberSigns  = []string{"+", "-", "*"}
)

func lit(v api.Value) api.Expr { return api.Expr{Kind: 1, V: v} }
func num(n int64) api.Expr     { return lit(api.Value{Kind: 2, N: n}) }
func str(s string) api.Expr    { return lit(api.Value{Kind: 3, S: s}) }
func none() api.Expr           { return lit(api.Value{}) }
func yes() api.Expr            { return lit(api.Value{Kind: 1, B: true}) }
func path(s string) api.Expr   { return api.Expr{Kind: 2, S: s} }
func neg(x api.Expr) api.Expr  { return api.Expr{Kind: 3, Kids: []api.Expr{x}} }
func not(x api.Expr) api.Expr  { return api.Expr{Kind: 4, Kids: []api.Expr{x}} }
func isNull(x api.Expr) api.Expr {
	return api.Expr{Kind: 5, Kids: []api.Expr{x}}
}
func bin(a api.Expr, sign string, b api.Expr) api.Expr {
	return api.Expr{Kind: 6, S: sign, Kids: []api.Expr{a, b}}
}
func list(l ...api.Expr) api.Expr { return api.Expr{Kind: 7, Kids: l} }
func structure(names string, l ...api.Expr) api.Expr {
	return api.Expr{Kind: 8, Names: strings.Fields(names), Kids: l}
}

// sample is an expression with its kind ahead.
type sample struct {
	x    api.Expr
	kind int
}

// bare are expressions of each kind that need no document.
func bare() []sample {
	one := api.Value{Kind: 2, N: 1}
	return []sample{
		{none(), null}, {lit(api.Value{Kind: 0}), null},
		{yes(), truths}, {lit(api.Value{Kind: 1}), truths}, {isNull(none()), truths}, {bin(num(1), "=", str("x")), truths}, {not(none()), truths}, {bin(yes(), "AND", none()), truths},
		{num(0), ints}, {num(1), ints}, {num(math.MinInt64), ints}, {num(math.MaxInt64), ints}, {neg(num(1)), ints}, {bin(num(1), "*", num(2)), ints},
		{str(""), strs}, {str("x"), strs}, {str("1"), strs}, {str("TRUE"), strs},
		{lit(api.Value{Kind: 4}), octets}, {lit(api.Value{Kind: 4, S: "\x00"}), octets},
		{list(), lists}, {list(num(1)), lists}, {list(none(), str("x")), lists}, {lit(api.Value{Kind: 5}), lists}, {lit(api.Value{Kind: 5, Parts: []api.Value{one}}), lists},
		{structure(""), docs}, {structure("a", num(1)), docs}, {structure("b a", none(), list()), docs}, {lit(api.Value{Kind: 6}), docs}, {lit(api.Value{Kind: 6, Names: []string{"a"}, Parts: []api.Value{one}}), docs},
		{bin(none(), "+", num(1)), free}, {bin(num(1), "-", none()), free}, {bin(none(), "*", none()), free},
	}
}

// inDoc are expressions that need a document.
func inDoc() []sample {
	return []sample{
		{path("a"), free}, {path("a.b.c"), free}, {path(""), free}, {neg(path("a")), free}, {bin(path("a"), "+", num(1)), free}, {bin(num(1), "*", path("a")), free}, {bin(path("a"), "-", path("a")), free},
		{not(path("a")), truths}, {isNull(path("a")), truths}, {bin(path("a"), "<", num(1)), truths}, {bin(path("a"), "OR", path("b")), truths},
		{list(path("a")), lists}, {structure("a", path("a")), docs},
	}
}

func all() []sample { return append(bare(), inDoc()...) }

// comes holds Kind against a kind.
func comes(t *testing.T, x api.Expr, fields bool, want int) {
	t.Helper()
	if kind, e := Kind(x, fields); kind != want || e != 0 {
		t.Errorf("Kind(%v, %v) = %d, %d, want %d, 0", x, fields, kind, e, want)
	}
}

// fails holds Kind against an error.
func fails(t *testing.T, x api.Expr, fields bool, want api.Errno) {
	t.Helper()
	if kind, e := Kind(x, fields); kind != 0 || e != want {
		t.Errorf("Kind(%v, %v) = %d, %d, want 0, %d", x, fields, kind, e, want)
	}
}

// Promise 13.1: literals of each kind, and all that is made without a path, come to their kinds, with and without a document.
func TestKindWithoutDocument(t *testing.T) {
	for kind := range 7 {
		comes(t, lit(api.Value{Kind: kind}), false, kind)
		comes(t, lit(api.Value{Kind: kind}), true, kind)
	}
	for _, s := range bare() {
		comes(t, s.x, false, s.kind)
		comes(t, s.x, true, s.kind)
	}
}

// Promise 13.1: a path is of any kind, where there is a document; else ErrScope, whatever stands around it.
func TestKindOfPaths(t *testing.T) {
	comes(t, path("a"), true, -1)
	fails(t, path("a"), false, 132)
	for _, s := range inDoc() {
		comes(t, s.x, true, s.kind)
		fails(t, s.x, false, noScope)
	}
}

// Promise 13.1: - takes a number, NULL and what is of any kind: of a number it is one, of the others of any kind; else ErrType.
func TestKindOfNeg(t *testing.T) {
	for _, s := range all() {
		switch s.kind {
		case ints:
			comes(t, neg(s.x), true, 2)
			comes(t, neg(neg(s.x)), true, 2)
		case null, free:
			comes(t, neg(s.x), true, -1)
			comes(t, neg(neg(s.x)), true, -1)
		default:
			fails(t, neg(s.x), true, 131)
			fails(t, neg(neg(s.x)), true, 131)
		}
	}
	comes(t, neg(none()), false, free)
	comes(t, neg(num(1)), false, ints)
	fails(t, neg(path("a")), false, noScope)
}

// Promise 13.1: NOT, AND, OR take yes and no, NULL and what is of any kind, on both sides; else ErrType.
func TestKindOfTruths(t *testing.T) {
	takes := func(s sample) bool { return s.kind == 1 || s.kind == 0 || s.kind == -1 }
	for _, a := range all() {
		if takes(a) {
			comes(t, not(a.x), true, 1)
		} else {
			fails(t, not(a.x), true, 131)
		}
		for _, b := range all() {
			for _, sign := range truthSigns {
				if takes(a) && takes(b) {
					comes(t, bin(a.x, sign, b.x), true, 1)
				} else {
					fails(t, bin(a.x, sign, b.x), true, 131)
				}
			}
		}
	}
}

// Promise 13.1: comparisons of any two kinds, and IS NULL of any one, are yes or no; so is IS NOT NULL.
func TestKindOfComparisons(t *testing.T) {
	for _, a := range all() {
		comes(t, isNull(a.x), true, 1)
		comes(t, not(isNull(a.x)), true, 1)
		for _, b := range all() {
			for _, sign := range compareSigns {
				comes(t, bin(a.x, sign, b.x), true, 1)
			}
		}
	}
}

// Promise 13.1: + - * of two numbers are one; of any kind, if a side is NULL or of any kind; else ErrType.
func TestKindOfNumbers(t *testing.T) {
	takes := func(s sample) bool { return s.kind == 2 || s.kind == 0 || s.kind == -1 }
	for _, a := range all() {
		for _, b := range all() {
			for _, sign := range numberSigns {
				x := bin(a.x, sign, b.x)
				switch {
				case a.kind == 2 && b.kind == 2:
					comes(t, x, true, 2)
				case takes(a) && takes(b):
					comes(t, x, true, -1)
				default:
					fails(t, x, true, 131)
				}
			}
		}
	}
}

// Promise 13.1: lists and structs, of no part, of one and of several, are of their kinds, whatever their parts are.
func TestKindOfListsAndStructs(t *testing.T) {
	comes(t, list(), false, 5)
	comes(t, structure(""), false, 6)
	comes(t, api.Expr{Kind: 7, Kids: []api.Expr{}}, false, 5)
	comes(t, api.Expr{Kind: 8, Kids: []api.Expr{}, Names: []string{}}, false, 6)
	for _, a := range all() {
		comes(t, list(a.x), true, 5)
		comes(t, structure("a", a.x), true, 6)
		for _, b := range all() {
			comes(t, list(a.x, b.x), true, 5)
			comes(t, structure("b a", a.x, b.x), true, 6)
		}
	}
}

// Promise 13.1: a name that comes twice in a struct is ErrTwice, wherever both stand, behind all errors of its kids.
func TestKindOfNamesTwice(t *testing.T) {
	one, wrong, lost := num(1), neg(str("x")), path("a")
	for _, names := range []string{"a a b", "a b a", "b a a", "a a a"} {
		fails(t, structure(names, one, one, one), false, 133)
		fails(t, structure(names, one, one, one), true, 133)
		fails(t, structure(names, one, one, wrong), true, 131)
		fails(t, structure(names, wrong, one, one), true, 131)
		fails(t, structure(names, one, one, lost), false, 132)
		fails(t, structure(names, lost, one, wrong), false, 132)
		fails(t, structure(names, wrong, one, lost), false, 131)
		fails(t, list(structure(names, one, one, one)), true, 133)
	}
	comes(t, structure("a A aa b", one, one, one, one), false, docs)
	comes(t, structure("a b", structure("a b", one, one), structure("a b", one, one)), false, docs)
	fails(t, structure("a b", structure("a b", one, one), structure("a a", one, one)), false, isTwice)
	// Both structs have a name twice, but the kid of the inner one comes first.
	fails(t, structure("a a", structure("b b", one, wrong), one), true, ofType)
}

// Promise 13.1: an expression's first error is that of its kids, from the left, ahead of its own.
func TestKindFirstError(t *testing.T) {
	byErr := map[api.Errno]api.Expr{
		131: neg(str("x")),
		132: path("a"),
		133: structure("a a", num(1), num(1)),
	}
	for first, a := range byErr {
		fails(t, a, false, first)
		fails(t, neg(a), false, first)
		fails(t, not(a), false, first)
		fails(t, isNull(a), false, first)
		fails(t, list(num(1), a, num(1)), false, first)
		fails(t, structure("b b b", num(1), a, num(1)), false, first)
		for _, sign := range append(append(append([]string{}, truthSigns...), compareSigns...), numberSigns...) {
			// One side is of a kind that most signs do not take: that is the sign's own error.
			fails(t, bin(a, sign, list()), false, first)
			fails(t, bin(list(), sign, a), false, first)
			fails(t, not(neg(bin(list(), sign, a))), false, first)
			for second, b := range byErr {
				fails(t, bin(a, sign, b), false, first)
				fails(t, bin(list(num(1)), sign, list(num(1), a, b)), false, first)
				fails(t, bin(bin(num(1), "+", a), sign, neg(b)), false, first)
				fails(t, structure("b a b", b, num(1), a), false, second)
			}
		}
	}
}

// whereOf is the expression that a text says.
func whereOf(t *testing.T, s string) api.Expr {
	t.Helper()
	x, _, e := syntax.Parse("DELETE FROM t WHERE " + s)
	if e != 0 {
		t.Fatal(s, e)
	}
	return x.Where
}

// Promise 13.1: expressions as they are written, with a document and without one.
func TestKindOfTexts(t *testing.T) {
	for s, want := range map[string]struct{ with, without int }{
		"NULL":                                   {0, 0},
		"TRUE":                                   {1, 1},
		"FALSE":                                  {1, 1},
		"7":                                      {2, 2},
		"-7":                                     {2, 2},
		"'7'":                                    {3, 3},
		"x'07'":                                  {4, 4},
		"[]":                                     {5, 5},
		"{}":                                     {6, 6},
		"a":                                      {-1, noScope},
		"a.b":                                    {-1, noScope},
		"-a":                                     {-1, noScope},
		"-NULL":                                  {-1, -1},
		"-TRUE":                                  {ofType, ofType},
		"-'x'":                                   {ofType, ofType},
		"-(1 = 1)":                               {ofType, ofType},
		"-[1]":                                   {ofType, ofType},
		"1 + 2 * 3 - 4":                          {2, 2},
		"1 + 2 * a - 4":                          {-1, noScope},
		"1 + 2 * NULL - 4":                       {-1, -1},
		"1 + 2 * 'x' - a":                        {ofType, ofType},
		"a + 'x'":                                {ofType, noScope},
		"'x' + a":                                {ofType, noScope},
		"a + 'x' = 1":                            {ofType, noScope},
		"'x' + 1 = 2":                            {ofType, ofType},
		"[1] = 2":                                {1, 1},
		"{a: 1} > x'00'":                         {1, 1},
		"NOT NULL":                               {1, 1},
		"NOT 1":                                  {ofType, ofType},
		"NOT 1 = 1":                              {1, 1},
		"NOT -1 * 2":                             {ofType, ofType},
		"NOT NULL + 1":                           {1, 1},
		"1 AND TRUE":                             {ofType, ofType},
		"TRUE OR 'x'":                            {ofType, ofType},
		"NULL OR a AND b + 1":                    {1, noScope},
		"FALSE AND [] OR TRUE":                   {ofType, ofType},
		"a = 1 OR b = 2 AND NOT c":               {1, noScope},
		"1 IS NULL":                              {1, 1},
		"[] IS NOT NULL":                         {1, 1},
		"a IS NOT NULL AND b":                    {1, noScope},
		"-'x' IS NULL":                           {ofType, ofType},
		"(1 = 1) + 1":                            {ofType, ofType},
		"(1 IS NULL) * NULL":                     {ofType, ofType},
		"[a, 1, 'x']":                            {5, noScope},
		"[1, -'x', a]":                           {ofType, ofType},
		"[1, a, -'x']":                           {ofType, noScope},
		"{a: 1, b: {a: 1}}":                      {6, 6},
		"{a: 1, b: 2, a: 3}":                     {isTwice, isTwice},
		"{a: 1, b: c, a: 3}":                     {isTwice, noScope},
		"{a: 1, b: -{}, a: c}":                   {ofType, ofType},
		"{a: {b: 1, b: 2}, a: a}":                {isTwice, isTwice},
		"{a: {b: 1, b: 2}, c: a} = 1":            {isTwice, isTwice},
		"[a, {b: 1, b: 2}] + -'x'":               {isTwice, noScope},
		"TRUE + 1 = {b: 1, b: 2}":                {ofType, ofType},
		"NOT [NOT (a + 1 = {b: -NULL})] IS NULL": {1, noScope},
		"(NOT [NOT (a + 1 = {b: -NULL})]) = NULL": {ofType, noScope},
	} {
		x := whereOf(t, s)
		for _, fields := range []bool{true, false} {
			w := want.without
			if fields {
				w = want.with
			}
			if w >= noTable {
				fails(t, x, fields, api.Errno(w))
			} else {
				comes(t, x, fields, w)
			}
		}
	}
}

// T5 and R1: expressions as nobody parses them end with an answer: a named error, behind that of their kids, and no kind beside it.
func TestKindOfNoExpressions(t *testing.T) {
	one := []api.Expr{num(1), num(2), num(3)}
	for kind := -2; kind < 12; kind++ {
		for many := range 4 {
			for _, sign := range []string{"", "+", "=", "AND", "%", "IS"} {
				for _, names := range []string{"", "a", "a b", "a b c", "a b c d", "a a", "a b c a"} {
					x := api.Expr{Kind: kind, S: sign, Kids: one[:many], Names: strings.Fields(names)}
					answers(t, x)
					answers(t, neg(list(x)))
				}
			}
		}
	}
	fails(t, api.Expr{}, true, ofType)
	fails(t, api.Expr{Kind: 9}, true, ofType)
	fails(t, api.Expr{Kind: -1}, true, ofType)
	fails(t, bin(num(1), "%", num(1)), true, ofType)
	fails(t, bin(num(1), "", num(1)), true, ofType)
	fails(t, bin(yes(), "and", yes()), true, ofType)
	fails(t, api.Expr{Kind: 9, Kids: []api.Expr{path("a")}}, false, noScope)
	fails(t, api.Expr{Kind: 8, Names: []string{"a", "a"}}, false, isTwice)
	fails(t, api.Expr{Kind: 3}, true, ofType)
	fails(t, api.Expr{Kind: 3, Kids: one}, true, ofType)
	fails(t, api.Expr{Kind: 6, S: "=", Kids: one[:1]}, true, ofType)
	fails(t, api.Expr{Kind: 8, Names: []string{"a", "b"}, Kids: one[:1]}, true, ofType)
	fails(t, api.Expr{Kind: 1, Kids: one[:1]}, true, ofType)
	fails(t, api.Expr{Kind: 2, S: "a", Kids: one[:1]}, true, ofType)
	// Names count in a struct alone.
	comes(t, api.Expr{Kind: 7, Names: []string{"a", "a"}, Kids: one[:1]}, true, lists)
	answers(t, lit(api.Value{Kind: 99}))
	answers(t, neg(lit(api.Value{Kind: -7})))
}

// answers asks that Kind and Stmt end, with one of the errors that there are, and with nothing beside it.
func answers(t *testing.T, x api.Expr) {
	t.Helper()
	for _, fields := range []bool{true, false} {
		kind, e := Kind(x, fields)
		if e != 0 && (e < ofType || e > isTwice || kind != 0) {
			t.Errorf("Kind(%v, %v) = %d, %d", x, fields, kind, e)
		}
	}
	for kind := -1; kind < 9; kind++ {
		s := api.Stmt{Kind: kind, Table: "t", Value: x, Names: []string{"a"}, Exprs: []api.Expr{x, x}, Where: x}
		if e := Stmt(api.Catalog{"t": nil}, s); e != 0 && (e < ofType || e > isTwice) {
			t.Errorf("Stmt(%v) = %d", s, e)
		}
	}
}

// R1: what is nested deeply, and what has many parts, ends as well.
func TestKindOfGreatExpressions(t *testing.T) {
	deep, minus, nested := path("a"), num(1), list()
	for range 1 << 16 {
		deep, minus, nested = not(deep), neg(minus), list(nested)
	}
	comes(t, deep, true, truths)
	fails(t, deep, false, noScope)
	comes(t, minus, false, ints)
	comes(t, nested, false, lists)
	fails(t, neg(nested), false, ofType)
	wide := structure("")
	for i := range 1 << 17 {
		wide.Names = append(wide.Names, fmt.Sprint("n", i*7919%(1<<17)))
		wide.Kids = append(wide.Kids, num(1))
	}
	comes(t, wide, false, docs)
	wide.Names[1<<17-1] = wide.Names[0]
	fails(t, wide, false, isTwice)
	wide.Kids[1<<17-1] = path("a")
	fails(t, wide, false, noScope)
}

// model is a second making of Kind: the parts of an expression one behind the other, each behind its kids, over a stack; the first one with an error ends it.
type model struct {
	stack  []string
	fields bool
}

// letter is a kind by a letter, which the chapter's words are told in below.
var letter = map[int]string{-1: "a", 0: "0", 1: "b", 2: "i", 3: "s", 4: "x", 5: "l", 6: "d"}

// pushed lays an expression's kind upon the stack, or tells its error.
func (m *model) pushed(x api.Expr) api.Errno {
	for _, kid := range x.Kids {
		if e := m.pushed(kid); e != 0 {
			return e
		}
	}
	sides := strings.Join(m.stack[len(m.stack)-len(x.Kids):], "")
	m.stack = m.stack[:len(m.stack)-len(x.Kids)]
	kind, e := m.kind(x, sides)
	m.stack = append(m.stack, kind)
	return e
}

// kind is the letter of an expression's kind, by those of its kids.
func (m *model) kind(x api.Expr, sides string) (string, api.Errno) {
	name := x.S
	if x.Kind != 6 {
		name = []string{1: "literal", 2: "path", 3: "neg", 4: "not", 5: "is", 7: "list", 8: "struct"}[x.Kind]
	}
	switch name {
	case "literal":
		return letter[x.V.Kind], 0
	case "path":
		if m.fields {
			return "a", 0
		}
		return "", 132
	case "neg", "+", "-", "*":
		if strings.Trim(sides, "i0a") != "" {
			return "", 131
		}
		if strings.Trim(sides, "i") == "" {
			return "i", 0
		}
		return "a", 0
	case "not", "AND", "OR":
		if strings.Trim(sides, "b0a") != "" {
			return "", 131
		}
		return "b", 0
	case "list":
		return "l", 0
	case "struct":
		for i, a := range x.Names {
			for _, b := range x.Names[:i] {
				if a == b {
					return "", 133
				}
			}
		}
		return "d", 0
	}
	return "b", 0
}

// modelKind is Kind by the model.
func modelKind(x api.Expr, fields bool) (int, api.Errno) {
	m := &model{fields: fields}
	if e := m.pushed(x); e != 0 {
		return 0, e
	}
	for kind, l := range letter {
		if l == m.stack[0] {
			return kind, 0
		}
	}
	return 99, 0
}

// held holds Kind against the model.
func held(t *testing.T, x api.Expr) {
	t.Helper()
	for _, fields := range []bool{true, false} {
		kind, e := Kind(x, fields)
		if k, f := modelKind(x, fields); kind != k || e != f {
			t.Fatalf("Kind(%v, %v) = %d, %d, want %d, %d", x, fields, kind, e, k, f)
		}
	}
}

// leaves are the least expressions of each kind.
func leaves() []api.Expr {
	return []api.Expr{none(), yes(), num(1), str("x"), lit(api.Value{Kind: 4}), list(), structure(""), path("a")}
}

// around is all expressions of one kind around the ones of a list, of one and of two.
func around(l []api.Expr) []api.Expr {
	var out []api.Expr
	for _, a := range l {
		out = append(out, neg(a), not(a), isNull(a), list(a), structure("a", a))
		for _, b := range l {
			for _, sign := range []string{"OR", "=", "+"} {
				out = append(out, bin(a, sign, b))
			}
			out = append(out, list(a, b), structure("a b", a, b), structure("a a", a, b))
		}
	}
	return out
}

// Promise 13.1: all small expressions are as the model has them.
func TestKindOfAllSmallExpressions(t *testing.T) {
	small := around(leaves())
	for _, x := range append(small, leaves()...) {
		held(t, x)
		for _, y := range []api.Expr{neg(x), not(x), isNull(x), list(x), structure("a", x)} {
			held(t, y)
		}
		for _, b := range append(leaves(), neg(str("x")), neg(none()), isNull(none()), structure("a a", none(), none())) {
			for _, sign := range []string{"OR", "AND", "=", "<>", "<", "<=", ">", ">=", "+", "-", "*"} {
				held(t, bin(x, sign, b))
				held(t, bin(b, sign, x))
			}
			held(t, list(x, b))
			held(t, list(b, x))
			held(t, structure("a a", x, b))
			held(t, structure("b a", b, x))
		}
	}
}

// grown is an expression at random, of at most so many within one another.
func grown(r *rand.Rand, deep int) api.Expr {
	l := leaves()
	if deep <= 1 {
		return l[r.Intn(len(l))]
	}
	kid := func() api.Expr { return grown(r, deep-1-r.Intn(2)) }
	signs := append(append(append([]string{}, truthSigns...), compareSigns...), numberSigns...)
	switch r.Intn(9) {
	case 0:
		return neg(kid())
	case 1:
		return not(kid())
	case 2:
		return isNull(kid())
	case 3:
		return list(kid(), kid(), kid())
	case 4:
		return structure([]string{"a b c", "c a b", "a b a"}[r.Intn(8)/3], kid(), kid(), kid())
	}
	return bin(kid(), signs[r.Intn(len(signs))], kid())
}

// Promise 13.1: great expressions, at random, are as the model has them.
func TestKindAtRandom(t *testing.T) {
	r := rand.New(rand.NewSource(13))
	seen := map[string]int{}
	for range 60000 {
		x := grown(r, 1+r.Intn(6))
		held(t, x)
		kind, e := Kind(x, true)
		seen[fmt.Sprint(kind, " ", e)]++
	}
	// Each kind and each error that there may be with a document came.
	if len(seen) != 10 {
		t.Error(seen)
	}
}
