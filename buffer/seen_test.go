package buffer

import (
	"math"
	"slices"
	"testing"

	"parchment/api"
	"parchment/keys"
	"parchment/ranges"
	"parchment/value"
	"parchment/views"
)

// ints is the keys of numbers from low on, below high.
func ints(low, high int64) api.Span {
	return api.Span{Low: keys.Of(value.Int(low)), High: keys.Of(value.Int(high))}
}

func wantNumbers(t *testing.T, what string, l []api.Row, want ...uint64) {
	t.Helper()
	if got := numbers(l); !slices.Equal(got, want) {
		t.Errorf("%s: documents %d, want %d", what, got, want)
	}
}

func TestAllAreByTheirNumbers(t *testing.T) {
	b := New(committed(t, 9, 8, 7, 6, 5))
	own := mustInsert(t, b, "t", num(0))
	last := mustInsert(t, b, "t", num(0))
	may(t, b.Update("t", last, num(1)), b.Update("t", 4, num(1)), b.Update("t", 2, num(2)), b.Delete("t", 3), b.Delete("t", own))
	wantRows(t, "All", b.All("t"), row(1, 0, num(9)), row(2, 1, num(2)), row(4, 1, num(1)), row(5, 0, num(5)), row(last, 1, num(1)))
	may(t, b.Delete("t", 1), b.Delete("t", 5))
	wantNumbers(t, "all are the transaction's own", b.All("t"), 2, 4, last)
}

func TestRangeByKeysAndNumbers(t *testing.T) {
	b := New(committed(t, 5, 3, 5, 3, 4))
	own := mustInsert(t, b, "t", num(3))
	mustInsert(t, b, "t", num(5))
	wantNumbers(t, "those that have the same are by their numbers", b.Range("t", "a", keys.All()), 2, 4, own, 5, 1, 3, own+1)
	may(t, b.Update("t", 4, num(3)), b.Update("t", 1, num(4)), b.Update("t", own+1, num(3)))
	wantNumbers(t, "changed ones stand where they are now", b.Range("t", "a", keys.All()), 2, 4, own, own+1, 1, 5, 3)
	may(t, b.Update("t", 3, of("b", value.Int(1))), b.Update("t", 2, of("a", value.Str("x"))))
	wantNumbers(t, "what has no such field has nothing", b.Range("t", "a", keys.All()), 3, 4, own, own+1, 1, 5, 2)
	wantNumbers(t, "nothing", b.Range("t", "a", keys.Equal(value.None())), 3)
}

func TestRangeOfWhatComesAndGoes(t *testing.T) {
	b := New(committed(t, 1, 2, 3, 4))
	span := ints(2, 4)
	wantNumbers(t, "as it is committed", b.Range("t", "a", span), 2, 3)
	may(t, b.Update("t", 2, num(4)))
	wantNumbers(t, "one leaves", b.Range("t", "a", span), 3)
	may(t, b.Update("t", 1, num(3)))
	wantNumbers(t, "one enters", b.Range("t", "a", span), 1, 3)
	may(t, b.Delete("t", 3))
	wantNumbers(t, "one goes", b.Range("t", "a", span), 1)
	own := mustInsert(t, b, "t", num(2))
	wantNumbers(t, "one comes", b.Range("t", "a", span), own, 1)
	may(t, b.Update("t", own, num(3)))
	wantNumbers(t, "it moves within", b.Range("t", "a", span), 1, own)
	may(t, b.Update("t", 2, num(2)))
	wantRows(t, "one comes back", b.Range("t", "a", span), row(2, 2, num(2)), row(1, 1, num(3)), row(own, 1, num(3)))
	may(t, b.Delete("t", 1), b.Delete("t", 2), b.Delete("t", own))
	wantNumbers(t, "all went", b.Range("t", "a", span))
}

// An index that is the transaction's own has committed documents, too; the committed table has none by that.
func TestRangeOfAnOwnIndex(t *testing.T) {
	v := views.New()
	commit(t, v, made("t"), made("u"))
	for i := range uint64(4) {
		commit(t, v, insert("t", i+1, of("b", value.Int(int64(9-i)))))
	}
	b := New(v)
	own := mustInsert(t, b, "t", of("b", value.Int(7)))
	wantNumbers(t, "there is none", b.Range("t", "b", keys.All()))
	may(t, b.Index("t", "b"))
	wantNumbers(t, "it is made behind the documents", b.Range("t", "b", keys.All()), 4, 3, own, 2, 1)
	mustInsert(t, b, "t", of("b", value.Int(7)))
	may(t, b.Update("t", 1, of("b", value.Int(6))), b.Delete("t", 2))
	wantNumbers(t, "documents come, change and go", b.Range("t", "b", keys.All()), 1, 4, 3, own, own+1)
	wantNumbers(t, "a span", b.Range("t", "b", ints(6, 7)), 1, 4)
	wantNumbers(t, "another table's", b.Range("u", "b", keys.All()))
	wantNumbers(t, "another field's", b.Range("t", "a", keys.All()))
	if l := v.Rows("t").Indexes(); len(l) != 0 {
		t.Error("the committed table has an index:", l)
	}
	wantCatalog(t, "a look makes no index", b.Catalog(), api.Catalog{"t": {"b"}, "u": nil})
}

// A look at a committed index makes none of the transaction's own.
func TestRangeMakesNoIndex(t *testing.T) {
	v := committed(t, 1)
	b := New(v)
	mustInsert(t, b, "t", num(2))
	ahead := told(b)
	for _, field := range []string{"a", "b", "", "no name"} {
		b.Range("t", field, keys.All())
		b.Range("u", field, keys.All())
	}
	if told(b) != ahead {
		t.Error(told(b))
	}
	if f := v.Catalog()["t"]; !slices.Equal(f, []string{"a"}) {
		t.Error(f)
	}
}

func TestRangeOfAnOwnTable(t *testing.T) {
	b := New(committed(t, 1))
	may(t, b.Table("u"), b.Index("u", "a"))
	n := mustInsert(t, b, "u", num(2))
	mustInsert(t, b, "u", num(1))
	may(t, b.Index("u", "b"))
	wantNumbers(t, "by a", b.Range("u", "a", keys.All()), n+1, n)
	wantNumbers(t, "by b", b.Range("u", "b", keys.All()), n, n+1)
	wantNumbers(t, "t", b.Range("t", "a", keys.All()), 1)
}

// valuesOfAllKinds is values of all kinds, in their order.
func valuesOfAllKinds() []api.Value {
	return []api.Value{
		value.None(), value.Bool(false), value.Bool(true),
		value.Int(math.MinInt64), value.Int(-1), value.Int(0), value.Int(1), value.Int(256), value.Int(math.MaxInt64),
		value.Str(""), value.Str("\x00"), value.Str("\x00\x01"), value.Str("a"), value.Str("a\x00"), value.Str("ab"), value.Str("\xff"),
		value.Bytes(""), value.Bytes("\x00"), value.Bytes("\xff\xff"),
		value.List(), value.List(value.None()), value.List(value.Int(1), value.Int(2)), value.List(value.List()),
		of(), of("a", value.Int(1)), of("a", value.Int(1), "b", value.None()), of("b", value.None()),
	}
}

// spans is spans about a value: of its key, of pairs of it, and of texts about these.
func spans(v api.Value) []api.Span {
	k := keys.Of(v)
	ends := []string{"", k, keys.Next(k), k[:1], k[:len(k)-1], k + "\x00", k + "\x00\x00\x00\x00\x00\x00\x00\x02", k + "\x00\x00\x00\x01", k + "\xff", keys.Pair(v, 2), keys.Pair(v, api.OwnDoc), keys.Pair(v, api.OwnDoc+1) + "x", keys.Next(k[:1])}
	var l []api.Span
	for _, low := range ends {
		for _, high := range ends {
			l = append(l, api.Span{Low: low, High: high})
		}
	}
	return l
}

// It is the key that is in the span, not the pair: as it is for those who tell which commits hit a look (T2).
func TestRangeSeesWhatALookSees(t *testing.T) {
	v := views.New()
	commit(t, v, made("t"), index("t", "a"))
	all := valuesOfAllKinds()
	for i := range 3 * len(all) {
		commit(t, v, insert("t", v.Next(), of("a", all[i%len(all)])))
	}
	b := New(v)
	for i, x := range all {
		mustInsert(t, b, "t", of("a", x))
		if i%4 == 0 {
			may(t, b.Update("t", uint64(i+1), of("a", all[len(all)-1-i])))
		}
	}
	all = append(all, value.Int(2), value.Str("b"))
	for _, x := range all {
		for _, s := range spans(x) {
			look := ranges.Part("t", "a", s)
			got := map[uint64]struct{}{}
			for _, d := range b.Range("t", "a", s) {
				got[d.Doc] = struct{}{}
				if !ranges.Hits(look, api.Touch{Table: "t", New: d.V, Is: true}) {
					t.Fatalf("%q: %v is not seen by the look", s, d)
				}
			}
			for _, d := range b.All("t") {
				_, is := got[d.Doc]
				if !is && ranges.Hits(look, api.Touch{Table: "t", New: d.V, Is: true}) {
					t.Fatalf("%q: %v is seen by the look alone", s, d)
				}
			}
		}
	}
}

// Spans that begin or end within the pairs of a key.
func TestRangeWithinPairs(t *testing.T) {
	b := New(committed(t, 3, 3, 3, 4))
	own := mustInsert(t, b, "t", num(3))
	key := keys.Of(value.Int(3))
	for what, x := range map[string]struct {
		s    api.Span
		want []uint64
	}{
		"ends at the key":                 {api.Span{High: key}, nil},
		"ends behind it":                  {api.Span{High: key + "\x00"}, []uint64{1, 2, 3, own}},
		"ends at a pair":                  {api.Span{High: keys.Pair(value.Int(3), 2)}, []uint64{1, 2, 3, own}},
		"ends at the first pair":          {api.Span{Low: key, High: keys.Pair(value.Int(3), 1)}, []uint64{1, 2, 3, own}},
		"ends at its own pair":            {api.Span{Low: key, High: keys.Pair(value.Int(3), own)}, []uint64{1, 2, 3, own}},
		"begins behind the key":           {api.Span{Low: key + "\x00"}, []uint64{4}},
		"begins at a pair":                {api.Span{Low: keys.Pair(value.Int(3), 2)}, []uint64{4}},
		"begins at its own pair":          {api.Span{Low: keys.Pair(value.Int(3), own)}, []uint64{4}},
		"begins ahead of the key":         {api.Span{Low: key[:len(key)-1], High: key + "\x00"}, []uint64{1, 2, 3, own}},
		"from a pair up to another":       {api.Span{Low: keys.Pair(value.Int(3), 1), High: keys.Pair(value.Int(3), 9)}, nil},
		"the key, up to the next":         {keys.Equal(value.Int(3)), []uint64{1, 2, 3, own}},
		"the key alone":                   {api.Span{Low: key, High: key + "\x00"}, []uint64{1, 2, 3, own}},
		"turned round":                    {api.Span{Low: keys.Next(key), High: key}, nil},
		"none":                            {api.Span{Low: "\xff", High: "\xff"}, nil},
		"all of the kind":                 {api.Span{Low: "\x02", High: "\x03"}, []uint64{1, 2, 3, own, 4}},
		"another kind":                    {api.Span{Low: "\x03"}, nil},
		"ends behind a key it has not":    {api.Span{High: keys.Of(value.Int(2)) + "\x00"}, nil},
		"ends with ff behind the key":     {api.Span{High: key + "\xff\xff"}, []uint64{1, 2, 3, own}},
		"begins with ff behind the key":   {api.Span{Low: key + "\xff\xff"}, []uint64{4}},
		"ends far behind the key's pairs": {api.Span{Low: "\x02", High: key + "\x00\x00\x00\x00\x00\x00\x00\x00\x00\x00\x00\x00"}, []uint64{1, 2, 3, own}},
	} {
		wantNumbers(t, what, b.Range("t", "a", x.s), x.want...)
	}
}

// To look at a narrow span of a great table costs no more than the documents that are in it.
func TestNarrowSpanOfAGreatTable(t *testing.T) {
	v := committed(t)
	const n = 3000
	for i := range uint64(n) {
		commit(t, v, insert("t", i+1, num(int64(i))))
	}
	b := New(v)
	mustInsert(t, b, "t", num(7))
	for _, s := range []api.Span{keys.Equal(value.Int(7)), ints(7, 9), {Low: keys.Of(value.Int(n - 3))}} {
		cost := testing.AllocsPerRun(10, func() {
			if l := b.Range("t", "a", s); len(l) == 0 || len(l) > 3 {
				t.Error(s, numbers(l))
			}
		})
		if cost > 400 {
			t.Errorf("%q takes %v pieces of memory", s, cost)
		}
	}
}
