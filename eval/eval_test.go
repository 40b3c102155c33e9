package eval

import (
	"strings"
	"testing"

	"parchment/api"
	"parchment/value"
)

// Promise 18.1: a path leads from part to part; where there is none it is nothing.
func TestPath(t *testing.T) {
	d := doc()
	for path, want := range map[string]api.Value{
		"a":     {Kind: 2, N: 4},
		"b.c":   {Kind: 3, S: "x"},
		"b.d.e": {Kind: 2, N: 7},
		"b.d":   {Kind: 6, Names: []string{"e"}, Parts: []api.Value{{Kind: 2, N: 7}}},
		"l":     {Kind: 5, Parts: []api.Value{{Kind: 2, N: 1}, {Kind: 3, S: "z"}}},
		"y":     {Kind: 1, B: true},
		"f":     {Kind: 1},
	} {
		if got := Path(d, path); !equal(got, want) {
			t.Errorf("%s: %v, want %v", path, got, want)
		}
		comes(t, api.Expr{Kind: 2, S: path}, d, want)
	}
	for _, path := range []string{
		"n", "z", "A", "aa", "z.a", "a.a", "a.a.a", "b.z", "b.a", "b.d.z", "b.d.e.e", "c", "d", "e", "d.e", "l.a", "l.0", "l.1", "n.a", "y.a",
		"", ".", "..", ".a", "a.", ".a.", "b..c", "b.c.", " a", "a ", "b .c", "b. c", "b,c", "b/c", "\x00", "a\x00",
	} {
		if got := Path(d, path); !equal(got, api.Value{}) {
			t.Errorf("%q: %v", path, got)
		}
		comes(t, api.Expr{Kind: 2, S: path}, d, api.Value{})
	}
}

// Promise 18.1: what is no struct has no parts that a path leads to.
func TestPathOfNoStruct(t *testing.T) {
	one := []api.Value{value.Int(1)}
	for _, d := range append(kinds(), api.Value{Kind: 5, Names: []string{"q"}, Parts: one}, api.Value{Kind: 7, Names: []string{"q"}, Parts: one}, api.Value{Kind: -1}) {
		for _, path := range []string{"q", "q.q", "", "."} {
			if got := Path(d, path); !equal(got, api.Value{}) {
				t.Errorf("%v, %q: %v", d, path, got)
			}
		}
	}
}

// R1: a struct with fewer parts than names ends with an answer.
func TestPathOfTooFewParts(t *testing.T) {
	d := api.Value{Kind: 6, Names: []string{"a", "b"}, Parts: []api.Value{value.Int(1)}}
	if got := Path(d, "a"); !equal(got, value.Int(1)) {
		t.Errorf("a: %v", got)
	}
	if got := Path(d, "b"); !equal(got, api.Value{}) {
		t.Errorf("b: %v", got)
	}
	if got := Path(api.Value{Kind: 6, Names: []string{"a"}}, "a.a"); !equal(got, api.Value{}) {
		t.Errorf("a.a: %v", got)
	}
}

// Promise 18.1: yes and no count as they are, nothing as no, all else is ErrType.
func TestTruth(t *testing.T) {
	for _, v := range append(kinds(), api.Value{Kind: 7}, api.Value{Kind: -1}, api.Value{Kind: 7, B: true}, api.Value{Kind: 2, N: 1, B: true}) {
		got, e := Truth(v)
		held, f := Holds(lit(v), value.None())
		want, wantE := false, ofType
		switch v.Kind {
		case 0:
			wantE = 0
		case 1:
			want, wantE = v.B, 0
		}
		if got != want || e != wantE {
			t.Errorf("Truth(%v) = %v, %d, want %v, %d", v, got, e, want, wantE)
		}
		if held != want || f != wantE {
			t.Errorf("Holds of %v = %v, %d, want %v, %d", v, held, f, want, wantE)
		}
	}
}

// Promise 18.1: by an expression of Kind 0 each document is meant, whatever else it has; Eval of it is ErrArg.
func TestHoldsOfNone(t *testing.T) {
	for _, d := range append(kinds(), doc()) {
		for _, x := range []api.Expr{{}, {S: "AND"}, {V: value.Bool(false)}, {Kids: []api.Expr{no()}}, {Names: []string{"a"}}} {
			if got, e := Holds(x, d); !got || e != 0 {
				t.Errorf("Holds(%v, %v) = %v, %d", x, d, got, e)
			}
			if got, e := Eval(x, d); !equal(got, api.Value{}) || e != noArg {
				t.Errorf("Eval(%v, %v) = %v, %d", x, d, got, e)
			}
		}
	}
	// Within another one it is looked at as any.
	fails(t, not(api.Expr{}), doc(), noArg)
	fails(t, bin(no(), "OR", api.Expr{}), doc(), noArg)
}

// Promise 18.1: Holds tells what an expression's value counts as, or its error.
func TestHolds(t *testing.T) {
	for s, want := range map[string]bool{
		"y": true, "f": false, "n": false, "z": false, "NULL": false, "TRUE": true, "FALSE": false, "NOT z": true, "NOT y": false,
		"a = 4": true, "a = 5": false, "b.d.e = 7": true, "n IS NULL": true, "a IS NULL": false, "y AND n": false, "n OR y": true,
	} {
		if got, e := Holds(parsed(t, s), doc()); got != want || e != 0 {
			t.Errorf("%s: %v, %d, want %v", s, got, e, want)
		}
	}
	// Each has a value, which counts as neither.
	for _, s := range []string{"a", "a + 1", "0", "1", "''", "'x'", "x'01'", "[]", "[TRUE]", "{}", "{y: TRUE}", "b", "l", "b.c"} {
		x := parsed(t, s)
		if _, e := Eval(x, doc()); e != 0 {
			t.Errorf("%s: %d", s, e)
		}
		if got, e := Holds(x, doc()); got || e != ofType {
			t.Errorf("%s: %v, %d, want %d", s, got, e, ofType)
		}
	}
	for e, x := range byErr() {
		fails(t, x, doc(), e)
	}
}

// greatExpr is an expression that has a struct, a list and a field of each kind in it.
func greatExpr() api.Expr {
	v := value.Struct([]string{"p", "q"}, []api.Value{value.List(value.Int(1), value.Int(2)), value.Str("s")})
	return fields("k j i h", lit(v), list(path("b"), lit(v), path("b")), path("l"), fields("o", path("b.d")))
}

// R2: what a call answers is the caller's own, and what is handed in is not changed.
func TestApart(t *testing.T) {
	right, _ := Eval(greatExpr(), doc())
	d, x := doc(), greatExpr()
	for range 2 {
		got, e := Eval(x, d)
		if e != 0 || !equal(got, right) {
			t.Fatalf("%v, %d, want %v", got, e, right)
		}
		spoil(got)
		spoil(Path(d, "b"))
		spoil(Path(d, "l"))
		lone, _ := Eval(path("b"), d)
		spoil(lone)
		lone, _ = Eval(x.Kids[0], d)
		spoil(lone)
	}
	if !equal(d, doc()) {
		t.Errorf("the document is changed: %v", d)
	}
	got, _ := Eval(x, d)
	part := Path(d, "b")
	spoil(d)
	spoil(x.Kids[0].V)
	x.Names[0] = "spoilt"
	if !equal(got, right) {
		t.Errorf("what was handed in, changed, changes the answer: %v", got)
	}
	if !equal(part, Path(doc(), "b")) {
		t.Errorf("a document that is changed changes its part: %v", part)
	}
}

// Rule 7 of the language: no two lists of one answer are the same memory.
func TestPartsApart(t *testing.T) {
	x := list(path("b"), path("b"), path("l"), path("l"))
	got, _ := Eval(x, doc())
	spoil(got.Parts[0])
	spoil(got.Parts[2])
	if !equal(got.Parts[1], Path(doc(), "b")) || !equal(got.Parts[3], Path(doc(), "l")) {
		t.Errorf("%v", got)
	}
}

// R2: no room behind a list that was handed in is written to.
func TestRoomBehind(t *testing.T) {
	kids, names := []api.Expr{num(1), str("kept")}, []string{"a", "kept"}
	x := api.Expr{Kind: 8, Names: names[:1], Kids: kids[:1]}
	comes(t, x, doc(), value.Struct([]string{"a"}, []api.Value{value.Int(1)}))
	if names[1] != "kept" || kids[1].V.S != "kept" {
		t.Errorf("%v, %v", names, kids)
	}
}

// R1: what is nested deeply ends as well, and within a time that does not grow faster than it.
func TestGreatOnes(t *testing.T) {
	const deep = 1 << 16
	d, nested, signs, sides := value.Int(3), list(), no(), num(0)
	for range deep {
		d = api.Value{Kind: 6, Names: []string{"a"}, Parts: []api.Value{d}}
		nested = fields("a", list(nested))
		signs = not(bin(no(), "OR", signs))
		sides = bin(neg(sides), "+", num(1))
	}
	way := strings.Repeat("a.", deep-1) + "a"
	if got := Path(d, way); !equal(got, value.Int(3)) {
		t.Error("the way down", got)
	}
	if got := Path(d, way+".a"); !equal(got, api.Value{}) {
		t.Error("beyond the end", got)
	}
	comes(t, bin(path(way), "=", num(3)), d, value.Bool(true))
	comes(t, bin(path("a"), "=", lit(d.Parts[0])), d, value.Bool(true))
	comes(t, signs, d, value.Bool(false))
	comes(t, sides, d, value.Int(0))
	got, e := Eval(nested, d)
	many := 0
	for ; len(got.Parts) > 0; got = got.Parts[0] {
		many++
	}
	if e != 0 || many != 2*deep {
		t.Error("nested", many, e)
	}
}
