package keys

import (
	"cmp"
	"math"
	"math/rand"
	"reflect"
	"slices"
	"strings"
	"testing"

	"parchment/api"
	"parchment/value"
)

// one is a struct of one part.
func one(name string, part api.Value) api.Value {
	return value.Struct([]string{name}, []api.Value{part})
}

// two is a struct of the parts a and b.
func two(a, b api.Value) api.Value {
	return value.Struct([]string{"a", "b"}, []api.Value{a, b})
}

// nested is a value within so many lists.
func nested(lists int, v api.Value) api.Value {
	for range lists {
		v = api.Value{Kind: api.List, Parts: []api.Value{v}}
	}
	return v
}

// sample is values that may be, in their order; no two of them are the same.
func sample() []api.Value {
	var out []api.Value
	out = append(out, value.None(), value.Bool(false), value.Bool(true))
	for _, n := range []int64{math.MinInt64, math.MinInt64 + 1, -1 << 32, -257, -256, -255, -1, 0, 1, 127, 128, 255, 256, 1 << 32, math.MaxInt64 - 1, math.MaxInt64} {
		out = append(out, value.Int(n))
	}
	texts := []string{
		"", "\x00", "\x00\x00", "\x00\x00\x00", "\x00\x00\x01", "\x00\x00\xff", "\x00\x01", "\x00\x01\x00", "\x00\xfe", "\x00\xff", "\x00\xff\x00", "\x00\xff\xff",
		"\x01", "\x01\x00", "A", "a", "a\x00", "a\x00\x00", "a\x00\x01", "a\x00b", "a\x00\xff", "a\x01", "aa", "ab", "b", "\x80", "\xfe", "\xfe\xff", "\xff", "\xff\x00", "\xff\xff",
	}
	for _, s := range texts {
		out = append(out, value.Str(s))
	}
	for _, s := range texts {
		out = append(out, value.Bytes(s))
	}
	n := value.Int
	return append(out,
		value.List(), value.List(value.None()), value.List(value.None(), value.None()), value.List(value.None(), value.Bool(true)),
		value.List(value.Bool(false)), value.List(n(-1)), value.List(n(-1), n(-1)), value.List(n(-1), n(0)), value.List(n(0)), value.List(n(0), n(-1)),
		value.List(value.Str("")), value.List(value.Str(""), value.Str("")), value.List(value.Str("a"), n(9)), value.List(value.Str("a\x00")), value.List(value.Str("aa")),
		value.List(value.List()), value.List(value.List(), value.None()), value.List(value.List(), value.List()), value.List(value.List(value.None())), value.List(one("a", n(1))),
		value.Struct(nil, nil),
		one("A", n(9)), one("_", n(9)),
		one("a", value.None()), two(value.None(), n(5)), one("a", n(-1)), two(n(-1), n(0)),
		value.Struct([]string{"a", "bb"}, []api.Value{n(-1), n(0)}), value.Struct([]string{"a", "c"}, []api.Value{n(-1), n(0)}),
		one("a", n(0)), two(n(0), n(-1)), one("a", one("a", n(0))), one("aa", n(-9)), one("b", n(-9)),
	)
}

// random is a value that may be, but for its bytes.
func random(r *rand.Rand, deep int) api.Value {
	kinds := 7
	if deep == api.MaxDeep {
		kinds = 5
	}
	few := func() string {
		b := make([]byte, r.Intn(4))
		for i := range b {
			b[i] = "\x00\x01a\xff"[r.Intn(4)]
		}
		return string(b)
	}
	switch r.Intn(kinds) {
	case api.Bool:
		return value.Bool(r.Intn(2) == 1)
	case api.Int:
		return value.Int([]int64{0, 1, -1, 64, -65, 256, math.MaxInt64, math.MinInt64}[r.Intn(8)])
	case api.Str:
		return value.Str(few())
	case api.Bytes:
		return value.Bytes(few())
	case api.List:
		var parts []api.Value
		for range r.Intn(4) {
			parts = append(parts, random(r, deep+1))
		}
		return value.List(parts...)
	case api.Struct:
		v := value.Struct(nil, nil)
		for range r.Intn(4) {
			v = value.With(v, []string{"a", "b", "ab", "_", "B1"}[r.Intn(5)], random(r, deep+1))
		}
		return v
	}
	return value.None()
}

// many is the sample, and random values that may be, with the same ones among them.
func many() []api.Value {
	r := rand.New(rand.NewSource(4))
	all := sample()
	for len(all) < 700 {
		if v := random(r, 1); value.Check(v) == api.OK {
			all = append(all, v)
		}
	}
	return all
}

// texts is all texts of at most so many bytes of a few.
func texts(most int) []string {
	out, longest := []string{""}, []string{""}
	for range most {
		var longer []string
		for _, s := range longest {
			for _, b := range []byte{0, 1, 'a', 'b', 0x80, 0xfe, 0xff} {
				longer = append(longer, s+string([]byte{b}))
			}
		}
		out, longest = append(out, longer...), longer
	}
	return out
}

// Promise 4.1: a value's key, byte by byte.
func TestOf(t *testing.T) {
	n := value.Int
	for _, c := range []struct {
		v api.Value
		s string
	}{
		{value.None(), "\x00"},
		{value.Bool(false), "\x01\x00"},
		{value.Bool(true), "\x01\x01"},
		{n(0), "\x02\x80\x00\x00\x00\x00\x00\x00\x00"},
		{n(1), "\x02\x80\x00\x00\x00\x00\x00\x00\x01"},
		{n(-1), "\x02\x7f\xff\xff\xff\xff\xff\xff\xff"},
		{n(math.MinInt64), "\x02\x00\x00\x00\x00\x00\x00\x00\x00"},
		{n(math.MaxInt64), "\x02\xff\xff\xff\xff\xff\xff\xff\xff"},
		{n(0x0102030405060708), "\x02\x81\x02\x03\x04\x05\x06\x07\x08"},
		{value.Str(""), "\x03\x00\x01"},
		{value.Str("ab"), "\x03ab\x00\x01"},
		{value.Str("\x00"), "\x03\x00\xff\x00\x01"},
		{value.Str("\x00\x00"), "\x03\x00\xff\x00\xff\x00\x01"},
		{value.Str("a\x00\xffb\x00\x01"), "\x03a\x00\xff\xffb\x00\xff\x01\x00\x01"},
		{value.Str("\xff"), "\x03\xff\x00\x01"},
		{value.Bytes(""), "\x04\x00\x01"},
		{value.Bytes("\x00x\x80"), "\x04\x00\xffx\x80\x00\x01"},
		{value.List(), "\x05\x00"},
		{value.List(value.None()), "\x05\x01\x00\x00"},
		{value.List(value.Bool(true), value.Str("a"), value.List()), "\x05\x01\x01\x01\x01\x03a\x00\x01\x01\x05\x00\x00"},
		{value.Struct(nil, nil), "\x06\x00"},
		{one("a", value.None()), "\x06\x01a\x00\x01\x00\x00"},
		{two(value.Bool(false), one("cd", value.Bytes("e"))), "\x06\x01a\x00\x01\x01\x00\x01b\x00\x01\x06\x01cd\x00\x01\x04e\x00\x01\x00\x00"},
	} {
		if s := Of(c.v); s != c.s {
			t.Errorf("Of(%v) = %x, want %x", c.v, s, c.s)
		}
	}
}

// Promise 4.1: Number, and that its texts are ordered as the numbers are.
func TestNumber(t *testing.T) {
	for _, c := range []struct {
		n uint64
		s string
	}{
		{0, "\x00\x00\x00\x00\x00\x00\x00\x00"},
		{1, "\x00\x00\x00\x00\x00\x00\x00\x01"},
		{255, "\x00\x00\x00\x00\x00\x00\x00\xff"},
		{256, "\x00\x00\x00\x00\x00\x00\x01\x00"},
		{0x0102030405060708, "\x01\x02\x03\x04\x05\x06\x07\x08"},
		{math.MaxInt64, "\x7f\xff\xff\xff\xff\xff\xff\xff"},
		{1 << 63, "\x80\x00\x00\x00\x00\x00\x00\x00"},
		{math.MaxUint64, "\xff\xff\xff\xff\xff\xff\xff\xff"},
	} {
		if s := Number(c.n); s != c.s {
			t.Errorf("Number(%d) = %x, want %x", c.n, s, c.s)
		}
	}
	for i := range 64 {
		low := uint64(1)<<i - 1
		if Number(low) >= Number(low+1) {
			t.Errorf("Number(%d) is not below that of one more", low)
		}
	}
}

// Promise 4.1: Pair: the key, and the number behind it; pairs are ordered by the values, and then by the numbers.
func TestPair(t *testing.T) {
	if s := Pair(value.Str("a"), 258); s != "\x03a\x00\x01\x00\x00\x00\x00\x00\x00\x01\x02" {
		t.Errorf("%x", s)
	}
	all, numbers := sample(), []uint64{0, 1, 255, 256, 1 << 40, math.MaxUint64}
	last := ""
	for _, v := range all {
		for _, n := range numbers {
			s := Pair(v, n)
			if s != Of(v)+Number(n) {
				t.Errorf("Pair(%v, %d) = %x", v, n, s)
			}
			if s <= last {
				t.Errorf("Pair(%v, %d) = %x is not above %x", v, n, s, last)
			}
			last = s
		}
	}
}

// Promise 4.1: Next.
func TestNext(t *testing.T) {
	for _, c := range []struct{ s, want string }{
		{"", ""},
		{"\xff", ""},
		{"\xff\xff\xff", ""},
		{"a", "b"},
		{"a\xff", "b"},
		{"a\xff\xff", "b"},
		{"\xff\xff\x00", "\xff\xff\x01"},
		{"\xffa\xff", "\xffb"},
		{"\x00", "\x01"},
		{"\x7f", "\x80"},
		{"\xfe", "\xff"},
		{"a\xfe", "a\xff"},
		{"a\xfe\xff", "a\xff"},
		{"a\x80\xff", "a\x81"},
		{"é\xff", "\xc3\xaa"},
		{strings.Repeat("\xff", 5000), ""},
		{"a" + strings.Repeat("\xff", 5000), "b"},
	} {
		if got := Next(c.s); got != c.want {
			t.Errorf("Next(%q) = %q, want %q", c.s, got, c.want)
		}
	}
}

// Promise 4.1: Next is above all that begin with a text, and all that are between begin with it, so that nothing less is.
func TestNextIsLeast(t *testing.T) {
	for _, s := range texts(2) {
		next := Next(s)
		if next == "" && strings.ReplaceAll(s, "\xff", "") != "" {
			t.Errorf("Next(%q) is none", s)
		}
		for _, other := range texts(4) {
			between := other >= s && (next == "" || other < next)
			if between != strings.HasPrefix(other, s) {
				t.Errorf("Next(%q) = %q: %q", s, next, other)
			}
		}
	}
}

// Promise 4.1: Equal: all that begin with a value's key, and nothing else.
func TestEqual(t *testing.T) {
	if s := Equal(value.Int(-1)); s != (api.Span{Low: "\x02\x7f\xff\xff\xff\xff\xff\xff\xff", High: "\x02\x80"}) {
		t.Errorf("of -1: %x", s)
	}
	if s := Equal(value.Int(math.MaxInt64)); s.High != "\x03" {
		t.Errorf("of the greatest number: %x", s)
	}
	if s := Equal(value.None()); s != (api.Span{Low: "\x00", High: "\x01"}) {
		t.Errorf("of nothing: %x", s)
	}
	all := sample()
	for i, a := range all {
		s := Equal(a)
		if Empty(s) {
			t.Errorf("Equal(%v) is empty", a)
		}
		for _, behind := range []string{"", "\x00", "\xff", "\xff\xff\xff\xff\xff\xff\xff\xff\xff", "x"} {
			if !Has(s, Of(a)+behind) {
				t.Errorf("Equal(%v) has not its key with %x behind it", a, behind)
			}
		}
		if key := Of(a); Has(s, key[:len(key)-1]) || Has(s, "") {
			t.Errorf("Equal(%v) has what its key begins with", a)
		}
		for k, b := range all {
			for _, n := range []uint64{0, 7, math.MaxUint64} {
				if Has(s, Pair(b, n)) != (i == k) {
					t.Errorf("Equal(%v) and a pair of %v and %d: %v", a, b, n, i != k)
				}
			}
			if Has(s, Of(b)) != (i == k) || Empty(Meet(s, Equal(b))) != (i != k) {
				t.Errorf("Equal(%v) and Equal(%v)", a, b)
			}
		}
	}
}

// Promise 4.1: All.
func TestAll(t *testing.T) {
	if Empty(All()) {
		t.Error("all is empty")
	}
	for _, s := range texts(3) {
		if !Has(All(), s) {
			t.Errorf("all has not %q", s)
		}
	}
	for _, v := range sample() {
		if !Has(All(), Of(v)) || !Has(All(), Pair(v, math.MaxUint64)) {
			t.Errorf("all has not the key of %v", v)
		}
		if s := Equal(v); Meet(All(), s) != s || Meet(s, All()) != s {
			t.Errorf("all and Equal(%v)", v)
		}
	}
}

// Promise 4.1: Has.
func TestHas(t *testing.T) {
	for _, c := range []struct {
		low, high, key string
		want           bool
	}{
		{"b", "d", "b", true},
		{"b", "d", "b\x00", true},
		{"b", "d", "c\xff", true},
		{"b", "d", "d", false},
		{"b", "d", "d\x00", false},
		{"b", "d", "a\xff", false},
		{"b", "d", "", false},
		{"b", "", "b", true},
		{"b", "", "\xff\xff", true},
		{"b", "", "a\xff", false},
		{"", "b", "", true},
		{"", "b", "a", true},
		{"", "b", "b", false},
		{"", "", "", true},
		{"b", "b", "b", false},
		{"d", "b", "b", false},
		{"d", "b", "c", false},
		{"d", "b", "d", false},
		{"", "\x00", "", true},
		{"", "\x00", "\x00", false},
		{"\x7f", "\x81", "\x80", true},
	} {
		if got := Has(api.Span{Low: c.low, High: c.high}, c.key); got != c.want {
			t.Errorf("Has({%q, %q}, %q) = %v", c.low, c.high, c.key, got)
		}
	}
}

// Promise 4.1: Empty.
func TestEmpty(t *testing.T) {
	for _, c := range []struct {
		low, high string
		want      bool
	}{
		{"", "", false},
		{"b", "", false},
		{"\xff", "", false},
		{"", "\x00", false},
		{"b", "b\x00", false},
		{"b", "d", false},
		{"b", "b", true},
		{"b\x00", "b", true},
		{"d", "b", true},
		{"\x80", "\x7f", true},
	} {
		if got := Empty(api.Span{Low: c.low, High: c.high}); got != c.want {
			t.Errorf("Empty({%q, %q}) = %v", c.low, c.high, got)
		}
	}
}

// Promise 4.1: Empty, of each span of short texts: whether no text is in it.
func TestEmptyOfAll(t *testing.T) {
	for _, low := range texts(2) {
		for _, high := range texts(2) {
			s, some := api.Span{Low: low, High: high}, false
			for _, key := range texts(2) {
				some = some || Has(s, key)
			}
			if Empty(s) == some {
				t.Errorf("Empty(%q) = %v", s, some)
			}
		}
	}
}

// Promise 4.1: Meet, of spans whose keys both have, and of spans that share nothing.
func TestMeet(t *testing.T) {
	span := func(low, high string) api.Span { return api.Span{Low: low, High: high} }
	for _, c := range []struct {
		what       string
		a, b, want api.Span
	}{
		{"all", span("", ""), span("", ""), span("", "")},
		{"the same", span("b", "d"), span("b", "d"), span("b", "d")},
		{"one within the other", span("a", "z"), span("b", "d"), span("b", "d")},
		{"over each other", span("a", "c"), span("b", "d"), span("b", "c")},
		{"no end, and an end", span("a", ""), span("b", "d"), span("b", "d")},
		{"no end, from later on", span("c", ""), span("b", "d"), span("c", "d")},
		{"no ends", span("c", ""), span("b", ""), span("c", "")},
		{"one begins with the other", span("b", "c"), span("b\x00", "b\x00\xff"), span("b\x00", "b\x00\xff")},
		{"the same beginning", span("b", "c"), span("b", "bb"), span("b", "bb")},
		{"the same end", span("a", "c"), span("b", "c"), span("b", "c")},
	} {
		if got := Meet(c.a, c.b); got != c.want {
			t.Errorf("%s: %q, want %q", c.what, got, c.want)
		}
		if got := Meet(c.b, c.a); got != c.want {
			t.Errorf("%s, the other way: %q, want %q", c.what, got, c.want)
		}
	}
	for _, c := range []struct {
		what string
		a, b api.Span
	}{
		{"they touch", span("a", "b"), span("b", "c")},
		{"they touch, no end", span("a", "b"), span("b", "")},
		{"apart", span("a", "b"), span("c", "d")},
		{"apart, no end", span("a", "b"), span("c", "")},
		{"an empty one", span("b", "b"), span("a", "z")},
		{"an empty one, and all", span("b", "b"), span("", "")},
		{"one whose end is below its beginning", span("d", "b"), span("a", "z")},
		{"one whose end is below its beginning, and all", span("d", "b"), span("", "")},
		{"two empty ones", span("d", "b"), span("b", "a")},
	} {
		if !Empty(Meet(c.a, c.b)) || !Empty(Meet(c.b, c.a)) {
			t.Errorf("%s: %q, %q", c.what, Meet(c.a, c.b), Meet(c.b, c.a))
		}
	}
}

// Promise 4.1: Meet, of all spans of short texts: the keys that are in both.
func TestMeetOfAll(t *testing.T) {
	var spans []api.Span
	ends := []string{"", "\x00", "\x01", "a", "a\x00", "a\xff", "b", "\x80", "\xff", "\xff\xff"}
	for _, low := range ends {
		for _, high := range ends {
			spans = append(spans, api.Span{Low: low, High: high})
		}
	}
	keys := texts(2)
	for _, a := range spans {
		for _, b := range spans {
			both, some := Meet(a, b), false
			for _, key := range keys {
				in := Has(a, key) && Has(b, key)
				some = some || in
				if Has(both, key) != in {
					t.Fatalf("Meet(%q, %q) = %q: %q", a, b, both, key)
				}
			}
			if Empty(both) == some {
				t.Fatalf("Meet(%q, %q) = %q: empty %v", a, b, both, some)
			}
		}
	}
}

// Promise 4.2: the example.
func TestBelowNought(t *testing.T) {
	if Of(value.Int(-1)) >= Of(value.Int(0)) {
		t.Errorf("%x, %x", Of(value.Int(-1)), Of(value.Int(0)))
	}
}

// Promise 4.2: the keys of values in their order rise.
func TestKeysRise(t *testing.T) {
	all := sample()
	for i, v := range all {
		if e := value.Check(v); e != api.OK {
			t.Errorf("%v may not be: %d", v, e)
		}
		if i > 0 && Of(all[i-1]) >= Of(v) {
			t.Errorf("%v: %x, and %v: %x", all[i-1], Of(all[i-1]), v, Of(v))
		}
	}
}

// Promise 4.2: a's key is below b's just where a is ahead of b; none begins with another one's.
func TestOrder(t *testing.T) {
	all := many()
	keys := make([]string, len(all))
	for i, v := range all {
		keys[i] = Of(v)
	}
	for i, a := range all {
		for k, b := range all {
			order := cmp.Compare(value.Compare(a, b), 0)
			if strings.Compare(keys[i], keys[k]) != order {
				t.Errorf("%v: %x, and %v: %x: %d", a, keys[i], b, keys[k], order)
			}
			if order != 0 && strings.HasPrefix(keys[i], keys[k]) {
				t.Errorf("%v: %x begins with that of %v: %x", a, keys[i], b, keys[k])
			}
		}
	}
}

// Promise 4.2: values as great, as deep and with as many parts as may be.
func TestOrderAtTheLimits(t *testing.T) {
	long := strings.Repeat("\x00", api.MaxValue-3)
	full := make([]api.Value, api.MaxParts)
	name := strings.Repeat("n", api.MaxName)
	all := []api.Value{
		value.Str(long[:len(long)-1]), value.Str(long), value.Str(long[1:] + "\x01"),
		value.List(full[1:]...), value.List(full...),
		nested(api.MaxDeep-1, value.Int(-1)), nested(api.MaxDeep-1, value.Int(0)), nested(api.MaxDeep-1, value.List()),
		one(name[1:], value.None()), one(name, value.None()),
	}
	for i, v := range all {
		if e := value.Check(v); e != api.OK {
			t.Errorf("%d may not be: %d", i, e)
		}
		if i > 0 && (Of(all[i-1]) >= Of(v) || strings.HasPrefix(Of(v), Of(all[i-1]))) {
			t.Errorf("%d: %x, %x", i, Of(all[i-1]), Of(v))
		}
	}
}

// R2: what is handed in is not changed. R4: the same is answered again.
func TestHandedIn(t *testing.T) {
	for _, v := range many() {
		was := value.Clone(v)
		key, pair, span := Of(v), Pair(v, 9), Equal(v)
		if !reflect.DeepEqual(v, was) {
			t.Errorf("%v was changed, it was %v", v, was)
		}
		if Of(was) != key || Pair(was, 9) != pair || Equal(was) != span {
			t.Errorf("%v: another answer", v)
		}
	}
}

// R2: what is done later to what was handed in changes no answer.
func TestChangedLater(t *testing.T) {
	v := value.Struct([]string{"a"}, []api.Value{value.List(value.Int(1))})
	key, span := Of(v), Equal(v)
	v.Names[0], v.Parts[0].Parts[0] = "b", value.Int(2)
	if w := one("a", value.List(value.Int(1))); key != Of(w) || span != Equal(w) || Of(v) == key {
		t.Errorf("%x, %x", key, span)
	}
}

// R3: lists that are empty and nil are the same.
func TestEmptyLists(t *testing.T) {
	for _, v := range []api.Value{value.None(), value.Int(1), value.Str("a"), value.List(), value.Struct(nil, nil)} {
		w := v
		w.Names, w.Parts = []string{}, []api.Value{}
		v.Names, v.Parts = nil, nil
		if Of(v) != Of(w) || Pair(v, 1) != Pair(w, 1) || Equal(v) != Equal(w) {
			t.Errorf("%v: %x, %x", v, Of(v), Of(w))
		}
	}
}

// R1 and R6: values that may not be: no call panics, and each ends.
func TestWhatMayNotBe(t *testing.T) {
	part := []api.Value{value.Int(1)}
	all := []api.Value{
		nested(1<<16, value.Int(1)),
		value.Str(strings.Repeat("\x00", 1<<20)),
		value.List(slices.Repeat(part, 1<<16)...),
	}
	for _, kind := range []int{math.MinInt, -256, -1, 0, 1, 2, 3, 4, 5, 6, 7, 255, 256, 259, math.MaxInt} {
		all = append(all,
			api.Value{Kind: kind, B: true, N: 1, S: "x"},
			api.Value{Kind: kind, Names: []string{"b", "a", "a"}, Parts: part},
			api.Value{Kind: kind, Names: []string{"a"}, Parts: slices.Repeat(part, 3)},
			api.Value{Kind: kind, Names: []string{"a", "b"}},
			api.Value{Kind: kind, Parts: part},
			api.Value{Kind: kind, Names: []string{"\x00"}, Parts: []api.Value{{Kind: kind, Names: []string{""}}}},
		)
	}
	for _, v := range all {
		key, span := Of(v), Equal(v)
		if Pair(v, 1) != key+Number(1) || !Has(span, key) || !Has(span, key+"\xff") {
			t.Errorf("kind %d: %x", v.Kind, span)
		}
	}
}
