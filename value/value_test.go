package value

import (
	"fmt"
	"math"
	"math/rand"
	"reflect"
	"slices"
	"strings"
	"testing"

	"parchment/api"
)

// ints is n numbers, one behind the other.
func ints(from, n int) []api.Value {
	var out []api.Value
	for i := range n {
		out = append(out, Int(int64(from+i)))
	}
	return out
}

// rising is n names that rise.
func rising(n int) []string {
	var out []string
	for i := range n {
		out = append(out, fmt.Sprintf("n%05d", i))
	}
	return out
}

// nested is a value within so many others: itself counted, it stands so deep.
func nested(deep int, v api.Value) api.Value {
	for range deep - 1 {
		v = api.Value{Kind: api.List, Parts: []api.Value{v}}
	}
	return v
}

// wide is a struct as it stands, whether it may be or not.
func wide(names []string, parts []api.Value) api.Value {
	return api.Value{Kind: api.Struct, Names: names, Parts: parts}
}

// equal holds two values against each other in all that they have; lists that are empty and nil are the same.
func equal(a, b api.Value) bool {
	return a.Kind == b.Kind && a.B == b.B && a.N == b.N && a.S == b.S &&
		slices.Equal(a.Names, b.Names) && slices.EqualFunc(a.Parts, b.Parts, equal)
}

func want(t *testing.T, what string, got, want api.Value) {
	t.Helper()
	if !equal(got, want) {
		t.Errorf("%s = %v, want %v", what, got, want)
	}
}

// spoil changes everything within a value that can be changed behind its lists.
func spoil(v api.Value) {
	for i := range v.Names {
		v.Names[i] = "spoilt"
	}
	for i := range v.Parts {
		spoil(v.Parts[i])
		v.Parts[i] = Str("spoilt")
	}
}

// sample is values that may be, in their order; no two of them are the same.
func sample() []api.Value {
	return []api.Value{
		None(),
		Bool(false), Bool(true),
		Int(math.MinInt64), Int(-300), Int(-1), Int(0), Int(1), Int(64), Int(300), Int(math.MaxInt64),
		Str(""), Str("\x00"), Str("\x00\x00"), Str("A"), Str("a"), Str("aa"), Str("ab"), Str("b"), Str("\x7f"), Str("\x80"), Str("\xff"),
		Bytes(""), Bytes("\x00"), Bytes("a"), Bytes("a\x00"), Bytes("b"), Bytes("\xff\xff"),
		List(), List(None()), List(None(), None()), List(Int(1)), List(Int(1), Int(1)), List(Int(1), Int(2)), List(Int(2)),
		List(Str("a"), Int(9)), List(Str("aa")), List(List()), List(List(), None()), List(List(None())),
		Struct(nil, nil),
		Struct([]string{"A"}, ints(9, 1)),
		Struct([]string{"_"}, ints(9, 1)),
		Struct([]string{"a"}, ints(1, 1)),
		Struct([]string{"a", "b"}, ints(1, 2)),
		Struct([]string{"a", "c"}, ints(1, 2)),
		Struct([]string{"a"}, ints(2, 1)),
		Struct([]string{"a", "b"}, ints(2, 2)),
		Struct([]string{"aa"}, ints(0, 1)),
		Struct([]string{"b"}, ints(0, 1)),
	}
}

// Promise 3.1: one value of each kind.
func TestMake(t *testing.T) {
	want(t, "None()", None(), api.Value{})
	want(t, "Bool(false)", Bool(false), api.Value{Kind: 1})
	want(t, "Bool(true)", Bool(true), api.Value{Kind: 1, B: true})
	for _, n := range []int64{0, 1, -1, math.MaxInt64, math.MinInt64} {
		want(t, "Int", Int(n), api.Value{Kind: 2, N: n})
	}
	for _, s := range []string{"", "x", "\x00", "\xff", strings.Repeat("y", 2000)} {
		want(t, "Str", Str(s), api.Value{Kind: 3, S: s})
		want(t, "Bytes", Bytes(s), api.Value{Kind: 4, S: s})
	}
}

// Promise 3.1: List, of no parts at all, of one, of many.
func TestMakeList(t *testing.T) {
	want(t, "List()", List(), api.Value{Kind: 5})
	want(t, "List(nil...)", List(nil...), api.Value{Kind: 5})
	want(t, "List of none", List([]api.Value{}...), api.Value{Kind: 5})
	want(t, "List(7)", List(Int(7)), api.Value{Kind: 5, Parts: []api.Value{{Kind: 2, N: 7}}})
	want(t, "List(b, nothing, a)", List(Str("b"), None(), Str("a")),
		api.Value{Kind: 5, Parts: []api.Value{{Kind: 3, S: "b"}, {}, {Kind: 3, S: "a"}}})
}

// Promise 3.1: Struct.
func TestMakeStruct(t *testing.T) {
	for _, c := range []struct {
		what  string
		names []string
		parts []api.Value
		want  api.Value
	}{
		{"the example", []string{"b", "a"}, ints(1, 2), wide([]string{"a", "b"}, []api.Value{Int(2), Int(1)})},
		{"nothing", nil, nil, wide(nil, nil)},
		{"empty lists", []string{}, []api.Value{}, wide(nil, nil)},
		{"names alone", []string{"a"}, nil, wide(nil, nil)},
		{"parts alone", nil, ints(1, 1), wide(nil, nil)},
		{"one", []string{"a"}, ints(1, 1), wide([]string{"a"}, ints(1, 1))},
		{"more names", []string{"c", "b", "a"}, ints(1, 2), wide([]string{"b", "c"}, []api.Value{Int(2), Int(1)})},
		{"more parts", []string{"c", "b"}, ints(1, 3), wide([]string{"b", "c"}, []api.Value{Int(2), Int(1)})},
		{"twice", []string{"a", "a"}, ints(1, 2), wide([]string{"a"}, ints(2, 1))},
		{"thrice, with others between", []string{"b", "a", "b", "c", "b"}, ints(1, 5), wide([]string{"a", "b", "c"}, []api.Value{Int(2), Int(5), Int(4)})},
		{"twice, the second without a part", []string{"a", "a"}, ints(1, 1), wide([]string{"a"}, ints(1, 1))},
		{"names that may not be", []string{"", "1", "\xff", "Z"}, ints(1, 4), wide([]string{"", "1", "Z", "\xff"}, []api.Value{Int(1), Int(2), Int(4), Int(3)})},
	} {
		want(t, c.what, Struct(c.names, c.parts), c.want)
	}
}

// Promise 3.1: Struct keeps the last part of each name, and their order, of many too.
func TestMakeStructOfMany(t *testing.T) {
	var names []string
	var parts []api.Value
	for i := range 5000 {
		names = append(names, rising(100)[(i*37)%100])
		parts = append(parts, Int(int64(i)))
	}
	got := Struct(names, parts)
	if !slices.Equal(got.Names, rising(100)) {
		t.Fatalf("names %v", got.Names)
	}
	for i, name := range got.Names {
		last := 0
		for k := range names {
			if names[k] == name {
				last = k
			}
		}
		if got.Parts[i].N != int64(last) {
			t.Errorf("%s: %d, want %d", name, got.Parts[i].N, last)
		}
	}
}

// Promise 3.1: Name.
func TestName(t *testing.T) {
	for _, s := range []string{"a", "z", "A", "Z", "_", "__", "a0", "_9", "Abc_9z", "SELECT", strings.Repeat("n", api.MaxName)} {
		if !Name(s) {
			t.Errorf("%q may be a name", s)
		}
	}
	for _, s := range []string{"", "0", "9a", "1_", "a b", " a", "a ", "a.b", "a-b", "a\x00", "é", "aé", "a'", "\xff", strings.Repeat("n", api.MaxName+1), strings.Repeat("n", 5000)} {
		if Name(s) {
			t.Errorf("%q may not be a name", s)
		}
	}
	for b := range 256 {
		inside := b >= 'a' && b <= 'z' || b >= 'A' && b <= 'Z' || b >= '0' && b <= '9' || b == '_'
		first := inside && (b < '0' || b > '9')
		if s := string([]byte{byte(b)}); Name(s) != first || Name("a"+s) != inside {
			t.Errorf("byte %d: %v first, %v behind, want %v, %v", b, Name(s), Name("a"+s), first, inside)
		}
	}
}

// Promise 3.1: Get.
func TestGet(t *testing.T) {
	v := Struct([]string{"b", "a", "d"}, []api.Value{Int(1), List(Str("x")), None()})
	want(t, "a", Get(v, "a"), List(Str("x")))
	want(t, "b", Get(v, "b"), Int(1))
	want(t, "d", Get(v, "d"), None())
	for _, name := range []string{"c", "", "A", "aa", "e"} {
		want(t, name, Get(v, name), None())
	}
	for _, v := range []api.Value{None(), Bool(true), Int(1), Str("a"), Bytes("a"), List(Str("a")), Struct(nil, nil), {Kind: 7}, {Kind: -1}} {
		want(t, "a of what has none", Get(v, "a"), None())
	}
	want(t, "a of a list with names", Get(api.Value{Kind: api.List, Names: []string{"a"}, Parts: ints(1, 1)}, "a"), None())
	want(t, "b, which has no part", Get(wide([]string{"a", "b"}, ints(1, 1)), "b"), None())
}

// Promise 3.1: With.
func TestWith(t *testing.T) {
	v := Struct([]string{"b", "d"}, ints(1, 2))
	want(t, "ahead", With(v, "a", Int(9)), wide([]string{"a", "b", "d"}, []api.Value{Int(9), Int(1), Int(2)}))
	want(t, "between", With(v, "c", Int(9)), wide([]string{"b", "c", "d"}, []api.Value{Int(1), Int(9), Int(2)}))
	want(t, "behind", With(v, "e", Int(9)), wide([]string{"b", "d", "e"}, []api.Value{Int(1), Int(2), Int(9)}))
	want(t, "in the place of another", With(v, "b", Str("x")), wide([]string{"b", "d"}, []api.Value{Str("x"), Int(2)}))
	want(t, "nothing in the place of another", With(v, "d", None()), wide([]string{"b", "d"}, []api.Value{Int(1), None()}))
	want(t, "of an empty one", With(Struct(nil, nil), "a", Int(9)), wide([]string{"a"}, ints(9, 1)))
	want(t, "what it was", v, wide([]string{"b", "d"}, ints(1, 2)))
	for _, v := range []api.Value{None(), Bool(true), Int(1), Str("a"), Bytes("a"), List(ints(1, 3)...), {Kind: 7, N: 3}, {Kind: api.List, Names: []string{"z"}, Parts: ints(1, 1)}} {
		want(t, "of what is no struct", With(v, "a", Int(9)), wide([]string{"a"}, ints(9, 1)))
	}
	want(t, "of more names", With(wide([]string{"a", "b"}, ints(1, 1)), "c", Int(9)), wide([]string{"a", "c"}, []api.Value{Int(1), Int(9)}))
	want(t, "of more parts", With(wide([]string{"a"}, ints(1, 2)), "c", Int(9)), wide([]string{"a", "c"}, []api.Value{Int(1), Int(9)}))
}

// R2: what a call answers and what is handed in stay apart.
func TestApart(t *testing.T) {
	inner := func() api.Value {
		return wide([]string{"p", "q"}, []api.Value{{Kind: api.List, Parts: ints(1, 2)}, Str("s")})
	}
	for _, c := range []struct {
		what string
		make func(v api.Value, names []string, parts []api.Value) api.Value
	}{
		{"List", func(_ api.Value, _ []string, parts []api.Value) api.Value { return List(parts...) }},
		{"Struct", func(_ api.Value, names []string, parts []api.Value) api.Value { return Struct(names, parts) }},
		{"Get", func(v api.Value, _ []string, _ []api.Value) api.Value { return Get(v, "p") }},
		{"With, the value", func(v api.Value, _ []string, _ []api.Value) api.Value { return With(v, "z", None()) }},
		{"With, the part", func(_ api.Value, _ []string, parts []api.Value) api.Value { return With(None(), "z", parts[0]) }},
		{"Clone", func(v api.Value, _ []string, _ []api.Value) api.Value { return Clone(v) }},
	} {
		fresh := func() (api.Value, []string, []api.Value) {
			return inner(), []string{"y", "x"}, []api.Value{inner(), inner()}
		}
		right := c.make(fresh())
		v, names, parts := fresh()
		spoil(c.make(v, names, parts))
		w, otherNames, otherParts := fresh()
		if !equal(v, w) || !slices.Equal(names, otherNames) || !slices.EqualFunc(parts, otherParts, equal) {
			t.Errorf("%s: an answer that is changed changes what was handed in", c.what)
		}
		got := c.make(w, otherNames, otherParts)
		spoil(w)
		spoil(wide(otherNames, otherParts))
		if !equal(got, right) {
			t.Errorf("%s: what was handed in, changed, changes the answer", c.what)
		}
	}
}

// R2: no room behind a list that was handed in is written to.
func TestRoomBehind(t *testing.T) {
	names, parts := []string{"a", "kept"}, []api.Value{Int(1), Str("kept")}
	With(wide(names[:1], parts[:1]), "b", Int(2))
	List(parts[:1]...)
	Clone(wide(names[:1], parts[:1]))
	if names[1] != "kept" || parts[1].S != "kept" {
		t.Errorf("%v, %v", names, parts)
	}
}

// bare is values with all but one thing zero, each of which stands in some kinds alone.
func bare() map[string]api.Value {
	return map[string]api.Value{
		"B":     {B: true},
		"N":     {N: -1},
		"S":     {S: "x"},
		"Parts": {Parts: ints(1, 1)},
		"Names": {Names: []string{"a"}},
	}
}

// Promise 3.2: Check, what each kind has.
func TestCheckForm(t *testing.T) {
	has := []string{"", "B", "N", "S", "S", "Parts", "Parts Names"}
	for kind := -2; kind <= 9; kind++ {
		for thing, v := range bare() {
			v.Kind = kind
			e := api.ErrForm
			if kind >= 0 && kind < len(has) && slices.Contains(strings.Fields(has[kind]), thing) {
				e = api.OK
				if kind == api.Struct {
					e = api.ErrName
				}
			}
			if got := Check(v); got != e {
				t.Errorf("kind %d with %s: %d, want %d", kind, thing, got, e)
			}
		}
		e := api.ErrForm
		if kind >= 0 && kind < len(has) {
			e = api.OK
		}
		if got := Check(api.Value{Kind: kind}); got != e {
			t.Errorf("kind %d: %d, want %d", kind, got, e)
		}
		if got := Check(api.Value{Kind: kind, Names: []string{}, Parts: []api.Value{}}); got != e {
			t.Errorf("kind %d with empty lists: %d, want %d", kind, got, e)
		}
	}
	for _, kind := range []int{math.MinInt, math.MaxInt, 256, 256 + api.Str} {
		if got := Check(api.Value{Kind: kind}); got != api.ErrForm {
			t.Errorf("kind %d: %d", kind, got)
		}
	}
}

// Promise 3.2: Check, the names of a struct.
func TestCheckNames(t *testing.T) {
	full := strings.Repeat("n", api.MaxName)
	for _, names := range [][]string{nil, {"a"}, {full}, {"a", "b", "c"}, {"A", "_", "a"}, {"a", "a0", "aa"}} {
		if e := Check(wide(names, ints(0, len(names)))); e != api.OK {
			t.Errorf("%q: %d", names, e)
		}
	}
	for _, names := range [][]string{{""}, {"1"}, {"a-"}, {full + "n"}, {"a", "a"}, {"b", "a"}, {"a", "c", "b"}, {"a", "b", "b"}, {"a", ""}, {"a", "b", "c d"}, {"a", "Z"}} {
		if e := Check(wide(names, ints(0, len(names)))); e != api.ErrName {
			t.Errorf("%q: %d", names, e)
		}
	}
	for _, v := range []api.Value{
		wide([]string{"a"}, nil), wide(nil, ints(0, 1)), wide([]string{"a", "b"}, ints(0, 1)), wide([]string{"a"}, ints(0, 2)),
		wide(rising(api.MaxParts+1), ints(0, api.MaxParts)),
	} {
		if e := Check(v); e != api.ErrName {
			t.Errorf("%d names, %d parts: %d", len(v.Names), len(v.Parts), e)
		}
	}
}

// Promise 3.2: Check, how deep, how many.
func TestCheckLimits(t *testing.T) {
	bad := api.Value{Kind: 9}
	for _, c := range []struct {
		what string
		v    api.Value
		e    api.Errno
	}{
		{"MaxDeep", nested(api.MaxDeep, Int(1)), api.OK},
		{"MaxDeep, an empty list last", nested(api.MaxDeep, List()), api.OK},
		{"one more", nested(api.MaxDeep+1, Int(1)), api.ErrDeep},
		{"one more, an empty list last", nested(api.MaxDeep+1, List()), api.ErrDeep},
		{"many more", nested(1<<16, Int(1)), api.ErrDeep},
		{"one more, in a struct", nested(api.MaxDeep, wide([]string{"a"}, ints(1, 1))), api.ErrDeep},
		{"the second part is too deep", List(Int(1), nested(api.MaxDeep, Int(1))), api.ErrDeep},
		{"MaxParts of a list", List(ints(0, api.MaxParts)...), api.OK},
		{"one more", List(ints(0, api.MaxParts+1)...), api.ErrLimit},
		{"many more", List(ints(0, 100000)...), api.ErrLimit},
		{"MaxParts of a struct", wide(rising(api.MaxParts), ints(0, api.MaxParts)), api.OK},
		{"one more", wide(rising(api.MaxParts+1), ints(0, api.MaxParts+1)), api.ErrLimit},
		{"a part within", List(Int(1), bad), api.ErrForm},
		{"a part of a struct", Struct([]string{"a", "b"}, []api.Value{Int(1), bad}), api.ErrForm},
		{"deep within", nested(api.MaxDeep, bad), api.ErrForm},
	} {
		if e := Check(c.v); e != c.e {
			t.Errorf("%s: %d, want %d", c.what, e, c.e)
		}
	}
}

// Promise 3.2: Check, how many bytes.
func TestCheckBytes(t *testing.T) {
	for _, c := range []struct {
		what string
		v    func(n int) api.Value
		over int // bytes beside those of the text
	}{
		{"a text", func(n int) api.Value { return Str(strings.Repeat("x", n)) }, 3},
		{"bytes", func(n int) api.Value { return Bytes(strings.Repeat("x", n)) }, 3},
		{"in a list, first", func(n int) api.Value { return List(Str(strings.Repeat("x", n)), None(), Bool(true)) }, 8},
		{"in a list, last", func(n int) api.Value { return List(None(), Int(300), Str(strings.Repeat("x", n))) }, 9},
		{"in a struct", func(n int) api.Value { return Struct([]string{"abc"}, []api.Value{Str(strings.Repeat("x", n))}) }, 9},
	} {
		just := c.v(api.MaxValue - c.over)
		s, e := Encode(just)
		if e != api.OK || len(s) != api.MaxValue || Check(just) != api.OK {
			t.Errorf("%s of just MaxValue: %d bytes, %d", c.what, len(s), e)
		}
		if w, e := Decode(s); e != api.OK || !equal(w, just) {
			t.Errorf("%s of just MaxValue, decoded: %d", c.what, e)
		}
		for _, more := range []int{1, 2, 2000, 1 << 21} {
			v := c.v(api.MaxValue - c.over + more)
			if s, e := Encode(v); e != api.ErrLimit || s != "" || Check(v) != api.ErrLimit {
				t.Errorf("%s of %d more: %d bytes, %d, %d", c.what, more, len(s), e, Check(v))
			}
		}
	}
	// Names count, and parts of which none is great.
	long := strings.Repeat("n", api.MaxName-2)
	var names []string
	for i := range api.MaxParts {
		names = append(names, fmt.Sprintf("%s%02d", long, i))
	}
	v := Struct(names, make([]api.Value, api.MaxParts))
	for i := range v.Parts {
		v.Parts[i] = Str(strings.Repeat("x", 13))
	}
	// A byte, a count, and of each part 17 bytes of a name, 15 of a text: 32 times 32, and 2.
	if e := Check(v); e != api.ErrLimit {
		t.Errorf("many parts: %d", e)
	}
	v.Parts[3] = Str(strings.Repeat("x", 11))
	if s, e := Encode(v); e != api.OK || len(s) != api.MaxValue {
		t.Errorf("many parts, 2 bytes less: %d bytes, %d", len(s), e)
	}
}

// Promise 3.2: which error comes first.
func TestCheckFirst(t *testing.T) {
	form, many := api.Value{Kind: api.Int, S: "x"}, List(ints(0, api.MaxParts+1)...)
	name, great := wide([]string{"1"}, ints(0, 1)), Str(strings.Repeat("x", api.MaxValue))
	for _, c := range []struct {
		what string
		v    api.Value
		e    api.Errno
	}{
		{"deep ahead of form", nested(api.MaxDeep+1, form), api.ErrDeep},
		{"deep ahead of many", nested(api.MaxDeep+1, many), api.ErrDeep},
		{"deep ahead of names", nested(api.MaxDeep+1, name), api.ErrDeep},
		{"form ahead of many", api.Value{Kind: api.List, N: 1, Parts: ints(0, api.MaxParts+1)}, api.ErrForm},
		{"form ahead of many, names", api.Value{Kind: api.List, Names: []string{"a"}, Parts: ints(0, api.MaxParts+1)}, api.ErrForm},
		{"form ahead of names", api.Value{Kind: api.Struct, S: "x", Names: []string{"1"}, Parts: ints(0, 1)}, api.ErrForm},
		{"many ahead of names", wide([]string{"1"}, ints(0, api.MaxParts+1)), api.ErrLimit},
		{"the value ahead of its parts", wide([]string{"1"}, []api.Value{form}), api.ErrName},
		{"the value ahead of its parts, many", List(append(ints(0, api.MaxParts), form)...), api.ErrLimit},
		{"form in the first part", List(form, many, name), api.ErrForm},
		{"many in the first part", List(many, form), api.ErrLimit},
		{"a name in the first part", List(name, form), api.ErrName},
		{"within the first part", List(List(Int(1), name), form), api.ErrName},
		{"the first part's own ahead of what is within it", List(wide([]string{"1"}, []api.Value{many}), form), api.ErrName},
		{"a part too deep, behind another", List(form, nested(api.MaxDeep, Int(1))), api.ErrForm},
		{"a part too deep, ahead of another", List(nested(api.MaxDeep, Int(1)), form), api.ErrDeep},
		{"bytes at last", List(great, form), api.ErrForm},
		{"bytes at last, a name", List(great, great, name), api.ErrName},
		{"bytes at last, deep", List(great, nested(api.MaxDeep, Int(1))), api.ErrDeep},
		{"bytes alone", List(great, Int(1)), api.ErrLimit},
	} {
		if e := Check(c.v); e != c.e {
			t.Errorf("%s: %d, want %d", c.what, e, c.e)
		}
		if s, e := Encode(c.v); e != c.e || s != "" {
			t.Errorf("%s: Encode: %q, %d, want %d", c.what, s, e, c.e)
		}
	}
}

// Promise 3.2: a value's bytes, both ways.
func TestBytesOfValues(t *testing.T) {
	for _, c := range []struct {
		v api.Value
		s string
	}{
		{None(), "\x00"},
		{Bool(false), "\x01\x00"},
		{Bool(true), "\x01\x01"},
		{Int(0), "\x02\x00"},
		{Int(-1), "\x02\x01"},
		{Int(1), "\x02\x02"},
		{Int(150), "\x02\xac\x02"},
		{Int(math.MinInt64), "\x02" + strings.Repeat("\xff", 9) + "\x01"},
		{Str(""), "\x03\x00"},
		{Str("ab"), "\x03\x02ab"},
		{Str(strings.Repeat("x", 300)), "\x03\xac\x02" + strings.Repeat("x", 300)},
		{Bytes(""), "\x04\x00"},
		{Bytes("\x00\xff"), "\x04\x02\x00\xff"},
		{List(), "\x05\x00"},
		{List(None()), "\x05\x01\x00"},
		{List(Int(-1), List(), Str("a")), "\x05\x03\x02\x01\x05\x00\x03\x01a"},
		{Struct(nil, nil), "\x06\x00"},
		{Struct([]string{"b", "a"}, ints(1, 2)), "\x06\x02\x01a\x02\x04\x01b\x02\x02"},
		{Struct([]string{"ab"}, []api.Value{Struct([]string{"c"}, []api.Value{Bool(true)})}), "\x06\x01\x02ab\x06\x01\x01c\x01\x01"},
	} {
		if s, e := Encode(c.v); s != c.s || e != api.OK {
			t.Errorf("Encode(%v) = %x, %d, want %x", c.v, s, e, c.s)
		}
		if v, e := Decode(c.s); !equal(v, c.v) || e != api.OK {
			t.Errorf("Decode(%x) = %v, %d, want %v", c.s, v, e, c.v)
		}
		if v, e := Decode(c.s + "\x00"); e != api.ErrLong || !reflect.DeepEqual(v, api.Value{}) {
			t.Errorf("Decode(%x, and a byte) = %v, %d", c.s, v, e)
		}
		for n := range len(c.s) {
			if v, e := Decode(c.s[:n]); e != api.ErrShort || !reflect.DeepEqual(v, api.Value{}) {
				t.Errorf("Decode(%x) = %v, %d", c.s[:n], v, e)
			}
		}
	}
}

// Promise 3.2: Decode's errors, and which comes first.
func TestDecodeErrors(t *testing.T) {
	lists := func(n int) string { return strings.Repeat("\x05\x01", n) }
	x := func(n int) string { return strings.Repeat("x", n) }
	full := strings.Repeat("n", api.MaxName)
	for _, c := range []struct {
		what, s string
		e       api.Errno
	}{
		{"nothing", "", api.ErrShort},
		{"a kind that is none", "\x07", api.ErrForm},
		{"the last kind that is none", "\xff\x00\x00", api.ErrForm},
		{"a kind that is none, within", "\x05\x02\x00\x07", api.ErrForm},
		{"a kind that is none, ahead of bytes that end", "\x05\x02\x07", api.ErrForm},
		{"yes in another form", "\x01\x02", api.ErrForm},
		{"a number in another form", "\x02\x80\x00", api.ErrForm},
		{"a number too great", "\x02" + strings.Repeat("\xff", 9) + "\x02", api.ErrForm},
		{"a text's length in another form", "\x03\x81\x00x", api.ErrForm},
		{"a count in another form", "\x05\x80\x00", api.ErrForm},
		{"a struct's count in another form", "\x06\x80\x00", api.ErrForm},
		{"a name's length in another form", "\x06\x01\x81\x00a\x00", api.ErrForm},
		{"a text above MaxValue", "\x03\x81\x08", api.ErrLimit},
		{"bytes above MaxValue", "\x04\x81\x08" + x(1025), api.ErrLimit},
		{"a text of MaxValue that ends", "\x03\x80\x08", api.ErrShort},
		{"a text of MaxValue", "\x03\x80\x08" + x(1024), api.ErrLimit},
		{"a text of MaxValue, and more", "\x03\x80\x08" + x(1025), api.ErrLong},
		{"MaxParts that end", "\x05\x20", api.ErrShort},
		{"more than MaxParts", "\x05\x21", api.ErrLimit},
		{"a struct of more than MaxParts", "\x06\x21", api.ErrLimit},
		{"a name of MaxName", "\x06\x01\x10" + full + "\x00", api.OK},
		{"a name of MaxName that ends", "\x06\x01\x10n", api.ErrShort},
		{"a name above MaxName", "\x06\x01\x11", api.ErrLimit},
		{"an empty name", "\x06\x01\x00\x00", api.ErrName},
		{"a digit first", "\x06\x01\x011\x00", api.ErrName},
		{"names that do not rise", "\x06\x02\x01b\x00\x01a\x00", api.ErrName},
		{"a name twice", "\x06\x02\x01a\x00\x01a\x00", api.ErrName},
		{"a wrong name, and bytes that are left", "\x06\x01\x011\x00\x00", api.ErrLong},
		{"a wrong name, and bytes that end", "\x06\x01\x011", api.ErrShort},
		{"a wrong name, and a kind that is none", "\x06\x01\x011\x07", api.ErrForm},
		{"MaxDeep", lists(api.MaxDeep-1) + "\x00", api.OK},
		{"MaxDeep, an empty list", lists(api.MaxDeep-1) + "\x05\x00", api.OK},
		{"one more", lists(api.MaxDeep) + "\x00", api.ErrDeep},
		{"one more, ahead of its end", lists(api.MaxDeep), api.ErrDeep},
		{"one more, ahead of its kind", lists(api.MaxDeep) + "\x07", api.ErrDeep},
		{"many more", lists(1 << 16), api.ErrDeep},
		{"one more, behind a name", lists(api.MaxDeep-1) + "\x06\x01\x01a", api.ErrDeep},
		{"one more, behind a name that ends", lists(api.MaxDeep-1) + "\x06\x01\x01", api.ErrShort},
		{"the kind ahead of what is too deep", "\x05\x02\x07" + lists(api.MaxDeep), api.ErrForm},
		{"too deep ahead of the kind", "\x05\x02" + lists(api.MaxDeep) + "\x07", api.ErrDeep},
	} {
		v, e := Decode(c.s)
		if e != c.e || e != api.OK && !reflect.DeepEqual(v, api.Value{}) {
			t.Errorf("%s: %v, %d, want %d", c.what, v, e, c.e)
		}
	}
}

// Promise 3.2: parts that may be each, and come to too many bytes.
func TestDecodeTooManyBytes(t *testing.T) {
	part := "\x03\x80\x04" + strings.Repeat("x", 512)
	if v, e := Decode("\x05\x02" + part + part); e != api.ErrLimit || !reflect.DeepEqual(v, api.Value{}) {
		t.Errorf("%v, %d", v, e)
	}
	if _, e := Decode("\x05\x03" + part + part + "\x06\x01\x011\x00"); e != api.ErrName {
		t.Errorf("a name ahead of the bytes: %d", e)
	}
}

// Promise 3.3: the order.
func TestCompare(t *testing.T) {
	all := sample()
	for i, a := range all {
		for k, b := range all {
			c := Compare(a, b)
			if i < k && c >= 0 || i == k && c != 0 || i > k && c <= 0 {
				t.Errorf("Compare(%v, %v) = %d, %d and %d in the order", a, b, c, i, k)
			}
			if Same(a, b) != (i == k) {
				t.Errorf("Same(%v, %v) = %v", a, b, i != k)
			}
		}
	}
}

// Promise 3.3: a struct's names and parts come by turns: an earlier part counts more than a later name.
func TestCompareByTurns(t *testing.T) {
	a, b := Struct([]string{"a", "b"}, ints(2, 2)), Struct([]string{"a", "c"}, ints(1, 2))
	if Compare(a, b) <= 0 || Compare(b, a) >= 0 {
		t.Errorf("%d, %d", Compare(a, b), Compare(b, a))
	}
}

// R3: lists that are empty and nil are the same.
func TestEmptyLists(t *testing.T) {
	for _, v := range []api.Value{None(), Int(1), List(), Struct(nil, nil)} {
		w := v
		w.Names, w.Parts = []string{}, []api.Value{}
		if !Same(v, w) || Compare(v, w) != 0 || Check(w) != api.OK {
			t.Errorf("%v: %d, %d", v, Compare(v, w), Check(w))
		}
		a, _ := Encode(v)
		if b, _ := Encode(w); a != b {
			t.Errorf("%v: %x, %x", v, a, b)
		}
	}
}

// Promise 3.3: Clone.
func TestClone(t *testing.T) {
	odd := []api.Value{{Kind: 9, B: true, N: 3, S: "x", Parts: ints(1, 3), Names: []string{"b", "a"}}, wide([]string{"a", "b"}, ints(1, 1)), {Kind: -1}}
	for _, v := range append(sample(), odd...) {
		want(t, "a clone", Clone(v), v)
		c := Clone(v)
		spoil(c)
		if len(v.Parts) > 0 && v.Parts[0].S == "spoilt" || len(v.Names) > 0 && v.Names[0] == "spoilt" {
			t.Errorf("a clone's lists are those of %v", v)
		}
	}
	v := List(List(Struct([]string{"a"}, []api.Value{List(Int(1))})))
	spoil(Clone(v))
	want(t, "what was cloned", v, List(List(Struct([]string{"a"}, []api.Value{List(Int(1))}))))
}

// random is a value that may be, but for its bytes.
func random(r *rand.Rand, deep int) api.Value {
	kinds := 7
	if deep == api.MaxDeep {
		kinds = 5
	}
	few := func() string { return strings.Repeat("a\x00\xff"[r.Intn(3):][:1], r.Intn(3)) }
	switch r.Intn(kinds) {
	case api.Bool:
		return Bool(r.Intn(2) == 1)
	case api.Int:
		return Int([]int64{0, 1, -1, 64, -65, math.MaxInt64, math.MinInt64}[r.Intn(7)])
	case api.Str:
		return Str(few())
	case api.Bytes:
		return Bytes(few())
	case api.List:
		var parts []api.Value
		for range r.Intn(4) {
			parts = append(parts, random(r, deep+1))
		}
		return List(parts...)
	case api.Struct:
		v := Struct(nil, nil)
		for range r.Intn(4) {
			v = With(v, []string{"a", "b", "ab", "_", "B1"}[r.Intn(5)], random(r, deep+1))
		}
		return v
	}
	return None()
}

// Promise 3.4: of values that may be those are the same whose bytes are; bytes go both ways; the order is one.
func TestSameBytes(t *testing.T) {
	r := rand.New(rand.NewSource(3))
	all := sample()
	for len(all) < 400 {
		if v := random(r, 1); Check(v) == api.OK {
			all = append(all, v)
		}
	}
	slices.SortStableFunc(all, Compare)
	bytes := make([]string, len(all))
	for i, v := range all {
		s, e := Encode(v)
		if w, f := Decode(s); e != api.OK || f != api.OK || !equal(v, w) || !Same(v, w) {
			t.Errorf("%v: %x, %d; %v, %d", v, s, e, w, f)
		}
		bytes[i] = s
	}
	for i, a := range all {
		for k, b := range all {
			if Same(a, b) != (bytes[i] == bytes[k]) || equal(a, b) != (bytes[i] == bytes[k]) {
				t.Errorf("%v and %v: %v, %x and %x", a, b, Same(a, b), bytes[i], bytes[k])
			}
			if c := Compare(a, b); i < k && c > 0 || i > k && c < 0 || c != -Compare(b, a) {
				t.Errorf("%v and %v: %d, %d", a, b, c, Compare(b, a))
			}
		}
	}
}

// Promise 3.4: of any bytes that are a value's the same come of it.
func TestBytesAgain(t *testing.T) {
	r := rand.New(rand.NewSource(4))
	good := 0
	for range 200000 {
		b := make([]byte, 1+r.Intn(9))
		for i := range b {
			b[i] = []byte{0, 1, 2, 3, 4, 5, 6, 'a', 'b', 0x80, 0xff}[r.Intn(11)]
		}
		v, e := Decode(string(b))
		if e != api.OK {
			continue
		}
		good++
		if s, e := Encode(v); e != api.OK || s != string(b) {
			t.Errorf("%x: %v, %x, %d", b, v, s, e)
		}
	}
	if good < 1000 {
		t.Errorf("only %d values", good)
	}
}

// R1 and R6: values that may not be: no call panics, and each ends.
func TestWhatMayNotBe(t *testing.T) {
	all := sample()
	for kind := -1; kind <= 8; kind++ {
		all = append(all,
			api.Value{Kind: kind, B: true, N: 1, S: "x"},
			api.Value{Kind: kind, Names: []string{"b", "a", "a"}, Parts: ints(1, 1)},
			api.Value{Kind: kind, Names: []string{"a"}, Parts: ints(1, 3)},
			api.Value{Kind: kind, Names: []string{"a", "b"}},
			api.Value{Kind: kind, Parts: []api.Value{{Kind: kind, Names: []string{""}}}},
		)
	}
	all = append(all, nested(1<<16, Int(1)), nested(1<<16, api.Value{Kind: 9}))
	for _, a := range all {
		for _, b := range all {
			Compare(a, b)
			Same(a, b)
			With(a, "a", b)
		}
		List(a, a)
		Struct([]string{"", "a", ""}, []api.Value{a, a})
		Get(a, "a")
		Get(a, "b")
		Check(a)
		Encode(a)
		Clone(a)
	}
}
