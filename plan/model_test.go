package plan

import (
	"math/rand"
	"slices"
	"strings"
	"testing"

	"parchment/api"
	"parchment/eval"
	"parchment/keys"
	"parchment/ranges"
	"parchment/rows"
	"parchment/value"
)

// where is an expression at random over the fields a, b and c, that comes to yes or no over any document.
func where(r *rand.Rand, deep int) api.Expr {
	if deep > 0 {
		left, right := where(r, deep-1-r.Intn(2)), where(r, deep-1-r.Intn(2))
		switch r.Intn(12) {
		case 0:
			return bin(left, "OR", right)
		case 1:
			return not(left)
		case 2:
			return bin(left, "=", right)
		}
		return and(left, right)
	}
	fields := []string{"a", "b", "c", "a", "b", "c", "c.a"}
	field := path(fields[r.Intn(len(fields))])
	literal := lit(few()[r.Intn(len(few()))])
	switch r.Intn(12) {
	case 0:
		return isNull(field)
	case 1:
		return bin(field, compareSigns()[r.Intn(6)], path("b"))
	case 2:
		return bin(field, "=", list(literal))
	case 3:
		return bin(literal, "<=", literal)
	}
	if r.Intn(2) == 0 {
		return bin(literal, compareSigns()[r.Intn(6)], field)
	}
	return bin(field, compareSigns()[r.Intn(6)], literal)
}

func compareSigns() []string { return append([]string{"<>"}, spanSigns...) }

// few is values of several kinds, near to one another, so that spans often meet.
func few() []api.Value {
	l := []api.Value{value.None(), value.Bool(true), value.Str(""), value.Str("x"), value.Bytes("\x00"), value.List(value.Int(1)), value.Struct([]string{"a"}, []api.Value{value.Int(2)})}
	for n := int64(-2); n < 6; n++ {
		l = append(l, value.Int(n))
	}
	return l
}

// documents are many documents of the fields a, b and c, of which each may be away.
func documents(r *rand.Rand, many int) []api.Value {
	out := make([]api.Value, many)
	for i := range out {
		d := value.Struct(nil, nil)
		for _, field := range []string{"a", "b", "c"} {
			if r.Intn(6) > 0 {
				d = value.With(d, field, few()[r.Intn(len(few()))])
			}
		}
		out[i] = d
	}
	return out
}

// listed is the parts of an expression, in their order.
func listed(x api.Expr) []api.Expr {
	waiting, out := []api.Expr{x}, []api.Expr(nil)
	for len(waiting) > 0 {
		last := waiting[len(waiting)-1]
		waiting = waiting[:len(waiting)-1]
		if last.Kind == 6 && last.S == "AND" {
			waiting = append(waiting, last.Kids[1], last.Kids[0])
		} else if last.Kind != 0 {
			out = append(out, last)
		}
	}
	return out
}

// field is the field of a comparison with a literal by one of the five signs; empty: it is none.
func field(x api.Expr) string {
	if x.Kind != 6 || !slices.Contains(spanSigns, x.S) {
		return ""
	}
	switch [2]int{x.Kids[0].Kind, x.Kids[1].Kind} {
	case [2]int{2, 1}:
		return x.Kids[0].S
	case [2]int{1, 2}:
		return x.Kids[1].S
	}
	return ""
}

// modelled is the field of the plan, and the parts of that field.
func modelled(x api.Expr, indexes []string) (string, []api.Expr) {
	l := listed(x)
	for _, part := range l {
		f := field(part)
		if f == "" || strings.Contains(f, ".") || !slices.Contains(indexes, f) {
			continue
		}
		return f, slices.DeleteFunc(l, func(x api.Expr) bool { return field(x) != f })
	}
	return "", nil
}

// holds tells whether all of some parts hold for a document.
func holds(t *testing.T, parts []api.Expr, d api.Value) bool {
	t.Helper()
	for _, part := range parts {
		yes, e := eval.Holds(part, d)
		if e != 0 {
			t.Fatal(part, d, e)
		}
		if !yes {
			return false
		}
	}
	return true
}

// Promise 19.1: the plan of many expressions is of the field that the model has, and its span has just those documents for which all parts of that field hold; whoever holds for the whole expression is among them.
func TestAgainstModel(t *testing.T) {
	r := rand.New(rand.NewSource(1919))
	docs := documents(r, 60)
	met, of := 0, map[string]int{}
	for range 8000 {
		x := where(r, r.Intn(6))
		indexes := [][]string{nil, {"a"}, {"b"}, {"c", "a"}, {"a", "b", "c"}, {"c.a", "b"}}[r.Intn(6)]
		want, parts := modelled(x, indexes)
		got := Choose(x, indexes)
		of[got.Field]++
		if len(parts) > 1 {
			met++
		}
		if got.Field != want || want == "" && got != (api.Plan{}) {
			t.Fatalf("Choose(%v, %q) = %q, want %q", x, indexes, got, want)
		}
		partsAre(t, x, listed(x)...)
		for _, d := range docs {
			in := want == "" || keys.Has(got.Span, keys.Of(value.Get(d, want)))
			if in != holds(t, parts, d) || !in && holds(t, []api.Expr{x}, d) {
				t.Fatalf("Choose(%v, %q) = %q of %v: %v", x, indexes, got, d, in)
			}
		}
	}
	if met < 500 || min(of[""], of["a"], of["b"], of["c"]) < 500 || len(of) != 4 {
		t.Error(met, of)
	}
}

// T2: the documents that an index has in a plan's span are those that are to be looked at: of all that there are none is lost for which the expression holds, and whoever comes into what is looked for, or leaves it, hits the look at that span.
func TestByIndexes(t *testing.T) {
	r := rand.New(rand.NewSource(191919))
	table := rows.New()
	for _, f := range []string{"a", "b", "c"} {
		table.AddIndex(f)
	}
	for i, d := range documents(r, 80) {
		table.Put(api.Row{Doc: uint64(i) << 20, V: d})
	}
	for range 1500 {
		x := where(r, 1+r.Intn(4))
		p := Choose(x, table.Indexes())
		if p.Field == "" {
			continue
		}
		var found, want []uint64
		for z := range table.Range(p.Field, p.Span) {
			if holds(t, []api.Expr{x}, z.V) {
				found = append(found, z.Doc)
			}
		}
		for z := range table.All() {
			if holds(t, []api.Expr{x}, z.V) {
				want = append(want, z.Doc)
				if !ranges.Hits(ranges.Part("t", p.Field, p.Span), api.Touch{Table: "t", New: z.V, Is: true}) {
					t.Errorf("%v: %v does not hit %q", x, z.V, p)
				}
			}
		}
		slices.Sort(found)
		if !slices.Equal(found, want) {
			t.Fatalf("%v, %q: %v, want %v", x, p, found, want)
		}
	}
}
