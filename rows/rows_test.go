package rows

import (
	"fmt"
	"iter"
	"math"
	"math/rand"
	"slices"
	"strings"
	"testing"

	"parchment/api"
	"parchment/keys"
	"parchment/value"
)

// of is a struct of names with values behind them by turns.
func of(l ...any) api.Value {
	v := value.Struct(nil, nil)
	for i := 0; i < len(l); i += 2 {
		v = value.With(v, l[i].(string), l[i+1].(api.Value))
	}
	return v
}

// num is a struct whose field a is a number.
func num(n int64) api.Value { return of("a", value.Int(n)) }

func row(doc, version uint64, v api.Value) api.Row {
	return api.Row{Doc: doc, Version: version, V: v}
}

// alike holds two values against each other in all that they have; lists that are empty and nil are the same.
func alike(a, b api.Value) bool {
	return a.Kind == b.Kind && a.B == b.B && a.N == b.N && a.S == b.S &&
		slices.Equal(a.Names, b.Names) && slices.EqualFunc(a.Parts, b.Parts, alike)
}

func alikeRow(a, b api.Row) bool {
	return a.Doc == b.Doc && a.Version == b.Version && alike(a.V, b.V)
}

func alikeRows(a, b []api.Row) bool { return slices.EqualFunc(a, b, alikeRow) }

// collect is the documents that are gone over.
func collect(seq iter.Seq[api.Row]) []api.Row {
	var l []api.Row
	for x := range seq {
		l = append(l, x)
	}
	return l
}

// numbers is the numbers of the documents that are gone over.
func numbers(seq iter.Seq[api.Row]) []uint64 {
	var l []uint64
	for x := range seq {
		l = append(l, x.Doc)
	}
	return l
}

// plain is a table as a list of documents, in no order, and one of fields.
type plain struct {
	docs   []api.Row
	fields []string
}

func (p *plain) find(doc uint64) int {
	return slices.IndexFunc(p.docs, func(x api.Row) bool { return x.Doc == doc })
}

func (p *plain) put(x api.Row) {
	p.drop(x.Doc)
	p.docs = append(p.docs, row(x.Doc, x.Version, value.Clone(x.V)))
}

func (p *plain) drop(doc uint64) bool {
	at := p.find(doc)
	if at >= 0 {
		p.docs = slices.Delete(p.docs, at, at+1)
	}
	return at >= 0
}

func (p *plain) index(field string) bool {
	if slices.Contains(p.fields, field) {
		return false
	}
	p.fields = append(p.fields, field)
	return true
}

// all is all documents, by their numbers.
func (p *plain) all() []api.Row {
	return slices.SortedFunc(slices.Values(p.docs), func(a, b api.Row) int {
		if a.Doc < b.Doc {
			return -1
		}
		return 1
	})
}

// within is the documents whose pair is in a span, by the order of values (not of keys) and then by their numbers.
func (p *plain) within(field string, s api.Span) []api.Row {
	if !slices.Contains(p.fields, field) {
		return nil
	}
	var l []api.Row
	for _, x := range p.all() {
		k := keys.Pair(value.Get(x.V, field), x.Doc)
		if k >= s.Low && (s.High == "" || k < s.High) {
			l = append(l, x)
		}
	}
	slices.SortStableFunc(l, func(a, b api.Row) int {
		return value.Compare(value.Get(a.V, field), value.Get(b.V, field))
	})
	return l
}

func (p *plain) clone() *plain {
	return &plain{docs: slices.Clone(p.docs), fields: slices.Clone(p.fields)}
}

// spans is spans about the pairs of a table's field: all, none, open ends, each pair alone, each value alone, from pair to pair.
func (p *plain) spans(field string) []api.Span {
	l := []api.Span{keys.All(), {Low: "a", High: "a"}, {Low: "b", High: "a"}, {Low: "\xff"}, {High: "\x00"}, {Low: "\x02", High: "\x03"}}
	last := ""
	for _, x := range p.all() {
		v := value.Get(x.V, field)
		k := keys.Pair(v, x.Doc)
		l = append(l, keys.Equal(v), api.Span{Low: k}, api.Span{High: k}, api.Span{Low: k, High: k + "\x00"}, api.Span{Low: k, High: k},
			api.Span{Low: k + "\x00"}, api.Span{Low: min(k, last), High: max(k, last)}, api.Span{Low: max(k, last), High: min(k, last)})
		last = k
	}
	return l
}

// same holds all that a table tells against a plain one.
func same(t *testing.T, what string, x *Rows, p *plain) {
	t.Helper()
	if x.Len() != len(p.docs) {
		t.Fatalf("%s: Len %d, want %d", what, x.Len(), len(p.docs))
	}
	if got, want := collect(x.All()), p.all(); !alikeRows(got, want) {
		t.Fatalf("%s: All is\n%v, want\n%v", what, got, want)
	}
	for _, want := range p.docs {
		if got, ok := x.Get(want.Doc); !ok || !alikeRow(got, want) {
			t.Fatalf("%s: Get(%d) is %v, %v, want %v", what, want.Doc, got, ok, want)
		}
	}
	for _, doc := range []uint64{0, 1, 3, 77777, api.OwnDoc, math.MaxUint64} {
		if got, ok := x.Get(doc); ok != (p.find(doc) >= 0) || !ok && !alikeRow(got, api.Row{}) {
			t.Fatalf("%s: Get(%d) is %v, %v", what, doc, got, ok)
		}
	}
	if got, want := x.Indexes(), slices.Sorted(slices.Values(p.fields)); !slices.Equal(got, want) {
		t.Fatalf("%s: Indexes %q, want %q", what, got, want)
	}
	for _, field := range append([]string{"nobody's", ""}, p.fields...) {
		sameSpan(t, what, x, p, field, keys.All())
	}
}

func sameSpan(t *testing.T, what string, x *Rows, p *plain, field string, s api.Span) {
	t.Helper()
	if got, want := collect(x.Range(field, s)), p.within(field, s); !alikeRows(got, want) {
		t.Fatalf("%s: Range(%q, %q) is\n%v, want\n%v", what, field, s, got, want)
	}
}

func sameSpans(t *testing.T, what string, x *Rows, p *plain) {
	t.Helper()
	same(t, what, x, p)
	for _, field := range p.fields {
		for _, s := range p.spans(field) {
			sameSpan(t, what, x, p, field, s)
		}
	}
}

// pairOf is a table with indexes, and a plain one, of the same documents.
func pairOf(fields []string, docs ...api.Row) (*Rows, *plain) {
	x, p := New(), &plain{}
	for _, f := range fields {
		x.AddIndex(f)
		p.index(f)
	}
	for _, d := range docs {
		x.Put(d)
		p.put(d)
	}
	return x, p
}

// kinds is values of all kinds, in their order; the second one of two that are alike in all but their kind is behind the first.
func kinds() []api.Value {
	return []api.Value{
		value.None(),
		value.Bool(false), value.Bool(true),
		value.Int(math.MinInt64), value.Int(-1), value.Int(0), value.Int(1), value.Int(256), value.Int(math.MaxInt64),
		value.Str(""), value.Str("\x00"), value.Str("\x00\x01"), value.Str("a"), value.Str("a\x00"), value.Str("aa"), value.Str("\xff"),
		value.Bytes(""), value.Bytes("\x00"), value.Bytes("a"), value.Bytes("\xff\xff"),
		value.List(), value.List(value.None()), value.List(value.Int(1), value.Int(2)), value.List(value.Int(2)), value.List(value.List()),
		of(), of("a", value.Int(1)), of("a", value.Int(1), "b", value.None()), of("a", value.Int(2)), of("b", value.None()),
	}
}

// ends is numbers of documents at both ends, and about where another one of their bytes is changed; rising.
func ends() []uint64 {
	return []uint64{0, 1, 2, 255, 256, 257, 65535, 65536, 1<<32 - 1, 1 << 32, api.OwnDoc - 1, api.OwnDoc, 1<<63 - 1, 1 << 63, math.MaxUint64 - 1, math.MaxUint64}
}

// Example 1.
func TestPutTwiceOfANumber(t *testing.T) {
	x := New()
	x.Put(row(7, 0, num(1)))
	x.Put(row(7, 1, num(2)))
	if x.Len() != 1 || !alikeRows(collect(x.All()), []api.Row{row(7, 1, num(2))}) {
		t.Error(x.Len(), collect(x.All()))
	}
}

func TestNewHasNothing(t *testing.T) {
	x := New()
	if x == nil {
		t.Fatal("New is nil")
	}
	same(t, "new", x, &plain{})
	if x.Drop(0) || x.Drop(1) || len(x.Indexes()) != 0 {
		t.Error("something is there")
	}
	x.Put(row(1, 0, num(1)))
	if y := New(); y.Len() != 0 {
		t.Error("two new tables are one")
	}
}

// A document comes in the place of another one: whatever its field was, and is, the index has the new one's pair alone.
func TestPutInThePlaceOfAnother(t *testing.T) {
	docs := map[string]api.Value{
		"1": num(1), "2": num(2), "another field": of("b", value.Int(1)), "both": of("a", value.Int(2), "b", value.Int(1)),
		"nothing in it": of(), "null in it": of("a", value.None()), "text": of("a", value.Str("2")), "struct": of("a", num(2)), "no struct": value.None(), "a number": value.Int(1), "a list": value.List(value.Int(1)),
	}
	for was, v := range docs {
		for is, w := range docs {
			for _, fields := range [][]string{nil, {"a"}, {"b", "a"}, {"c"}} {
				what := fmt.Sprint(was, ", then ", is, ", indexes of ", fields)
				x, p := pairOf(fields, row(4, 1, num(2)), row(5, 3, v), row(6, 1, num(2)))
				sameSpans(t, what, x, p)
				x.Put(row(5, 4, w))
				p.put(row(5, 4, w))
				sameSpans(t, what, x, p)
				if x.Len() != 3 {
					t.Errorf("%s: Len %d", what, x.Len())
				}
			}
		}
	}
}

// No version is above another one here: what is put last counts.
func TestPutOfALowerVersion(t *testing.T) {
	x := New()
	for _, v := range []uint64{5, 2, math.MaxUint64, 0} {
		x.Put(row(1, v, num(int64(v%100))))
		if got, ok := x.Get(1); !ok || got.Version != v || !alike(got.V, num(int64(v%100))) || x.Len() != 1 {
			t.Errorf("version %d: %v, %v", v, got, ok)
		}
	}
}

func TestDrop(t *testing.T) {
	for _, fields := range [][]string{nil, {"a"}, {"a", "b"}} {
		x, p := pairOf(fields, row(1, 0, num(1)), row(2, 0, num(1)), row(3, 0, num(2)), row(4, 0, of()))
		for _, doc := range []uint64{0, 5, math.MaxUint64} {
			if x.Drop(doc) {
				t.Errorf("Drop(%d) of one that never was", doc)
			}
		}
		same(t, "all are there", x, p)
		for i, doc := range []uint64{2, 4, 1, 3} {
			if !x.Drop(doc) || x.Drop(doc) || x.Len() != 3-i {
				t.Errorf("Drop(%d), and again; Len %d", doc, x.Len())
			}
			if got, ok := x.Get(doc); ok || !alikeRow(got, api.Row{}) {
				t.Errorf("Get(%d) of one that went: %v, %v", doc, got, ok)
			}
			p.drop(doc)
			sameSpans(t, fmt.Sprint("without ", doc), x, p)
		}
		x.Put(row(2, 9, num(8)))
		p.put(row(2, 9, num(8)))
		sameSpans(t, "one comes again", x, p)
		if !x.Drop(2) || x.Drop(2) {
			t.Error("one that came again goes once")
		}
	}
}

func TestGet(t *testing.T) {
	x := New()
	for i, n := range ends() {
		x.Put(row(n, uint64(i), of("n", value.Int(int64(i)))))
	}
	for i, n := range ends() {
		if got, ok := x.Get(n); !ok || !alikeRow(got, row(n, uint64(i), of("n", value.Int(int64(i))))) {
			t.Errorf("Get(%d): %v, %v", n, got, ok)
		}
	}
	for _, n := range []uint64{3, 254, 258, 1 << 31, 1<<32 + 1, api.OwnDoc + 1, math.MaxUint64 - 2} {
		if got, ok := x.Get(n); ok || !alikeRow(got, api.Row{}) {
			t.Errorf("Get(%d) of one that never was: %v, %v", n, got, ok)
		}
	}
}

func TestAddIndex(t *testing.T) {
	x, p := pairOf(nil, row(1, 0, num(2)), row(2, 0, num(1)), row(3, 0, of("b", value.Int(7))))
	for _, field := range []string{"a", "b", "c", "", "a.b", "no name", strings.Repeat("n", 100)} {
		if l := numbers(x.Range(field, keys.All())); len(l) != 0 {
			t.Errorf("Range of %q, which has no index: %v", field, l)
		}
		if !x.AddIndex(field) {
			t.Errorf("AddIndex(%q) says that there was one", field)
		}
		p.index(field)
		sameSpans(t, "behind the documents", x, p)
		if x.AddIndex(field) {
			t.Errorf("AddIndex(%q) says that there was none", field)
		}
		sameSpans(t, "twice", x, p)
	}
	if l := numbers(x.Range("a", keys.All())); !slices.Equal(l, []uint64{3, 2, 1}) {
		t.Error(l)
	}
	if l := numbers(x.Range("b", keys.All())); !slices.Equal(l, []uint64{1, 2, 3}) {
		t.Error(l)
	}
	for i := range 3 {
		x.Drop(uint64(i + 1))
		p.drop(uint64(i + 1))
		if x.AddIndex("a") {
			t.Error("an index goes with documents")
		}
		sameSpans(t, "fewer documents", x, p)
	}
}

func TestAddIndexAheadOfDocuments(t *testing.T) {
	x := New()
	if !x.AddIndex("a") || x.AddIndex("a") || !x.AddIndex("b") || x.AddIndex("b") {
		t.Error("an index of no documents, and again")
	}
	p := &plain{fields: []string{"a", "b"}}
	same(t, "no documents", x, p)
	for i := range 20 {
		d := row(uint64(40-i), 0, num(int64(i%7)))
		x.Put(d)
		p.put(d)
		sameSpans(t, "documents come", x, p)
	}
}

func TestIndexes(t *testing.T) {
	x := New()
	if l := x.Indexes(); len(l) != 0 {
		t.Errorf("of none: %q", l)
	}
	for _, f := range []string{"b", "a", "Z", "_", "aa", "b", "a0"} {
		x.AddIndex(f)
	}
	want := []string{"Z", "_", "a", "a0", "aa", "b"}
	for range 20 {
		if l := x.Indexes(); !slices.Equal(l, want) {
			t.Fatalf("%q", l)
		}
	}
	x.Indexes()[0] = "changed"
	if l := x.Indexes(); !slices.Equal(l, want) || x.AddIndex("Z") || !x.AddIndex("changed") {
		t.Errorf("%q, with a list that was handed out changed", l)
	}
}

func TestAllByRisingNumbers(t *testing.T) {
	for seed := range 5 {
		l := ends()
		rand.New(rand.NewSource(int64(seed))).Shuffle(len(l), func(i, k int) { l[i], l[k] = l[k], l[i] })
		x := New()
		for _, n := range l {
			x.Put(row(n, 0, num(-int64(n))))
		}
		if got := numbers(x.All()); !slices.Equal(got, ends()) {
			t.Errorf("%d", got)
		}
	}
}

// stops goes over documents, and stops behind each number of them; then they are gone over from the first one again.
func stops(t *testing.T, what string, seq iter.Seq[api.Row]) {
	t.Helper()
	all := numbers(seq)
	for n := range len(all) + 1 {
		var l []uint64
		for x := range seq {
			if len(l) == n {
				break
			}
			l = append(l, x.Doc)
		}
		if !slices.Equal(l, all[:n]) {
			t.Errorf("%s, stopped behind %d: %v of %v", what, n, l, all)
		}
	}
	// Whoever says that nothing more is wanted is asked no more.
	asked := 0
	seq(func(api.Row) bool { asked++; return false })
	if asked != min(1, len(all)) {
		t.Errorf("%s: asked %d times behind no", what, asked)
	}
}

func TestStoppedOnTheWay(t *testing.T) {
	x := New()
	x.AddIndex("a")
	stops(t, "All of none", x.All())
	stops(t, "Range of none", x.Range("a", keys.All()))
	stops(t, "Range without an index", x.Range("b", keys.All()))
	for i := range 30 {
		x.Put(row(uint64(100-i), 0, num(int64(i*7%10))))
	}
	stops(t, "All", x.All())
	stops(t, "Range", x.Range("a", keys.All()))
	stops(t, "Range of one value", x.Range("a", keys.Equal(value.Int(3))))
	if l := numbers(x.All()); len(l) != 30 {
		t.Error(l)
	}
}

func TestRangeOfUnlikeKinds(t *testing.T) {
	l := kinds()
	x, p := pairOf([]string{"a"})
	// The numbers fall while the values rise, but for the second document of each value.
	for i, v := range l {
		for _, n := range []int{1000 - i, 2000 + i} {
			d := row(uint64(n), uint64(i), of("a", v))
			x.Put(d)
			p.put(d)
		}
	}
	var want []uint64
	for i := range l {
		want = append(want, uint64(1000-i), uint64(2000+i))
	}
	if got := numbers(x.Range("a", keys.All())); !slices.Equal(got, want) {
		t.Errorf("%v, want %v", got, want)
	}
	for i, v := range l {
		if got := numbers(x.Range("a", keys.Equal(v))); !slices.Equal(got, want[2*i:2*i+2]) {
			t.Errorf("Equal of %v: %v", v, got)
		}
		if got := numbers(x.Range("a", api.Span{Low: keys.Of(v)})); !slices.Equal(got, want[2*i:]) {
			t.Errorf("from %v on: %v", v, got)
		}
		if got := numbers(x.Range("a", api.Span{High: keys.Of(v)})); i > 0 && !slices.Equal(got, want[:2*i]) {
			t.Errorf("below %v: %v", v, got)
		}
	}
	sameSpans(t, "kinds", x, p)
}

func TestRangeOfOneValueInManyDocuments(t *testing.T) {
	x, p := pairOf([]string{"a"})
	for _, n := range []uint64{256, 1, math.MaxUint64, 255, 0, 1 << 63, 65536} {
		x.Put(row(n, 0, num(3)))
		p.put(row(n, 0, num(3)))
	}
	want := []uint64{0, 1, 255, 256, 65536, 1 << 63, math.MaxUint64}
	if got := numbers(x.Range("a", keys.Equal(value.Int(3)))); !slices.Equal(got, want) {
		t.Error(got)
	}
	// A pair's number counts in a span, not its key alone.
	for i, n := range want {
		k := keys.Pair(value.Int(3), n)
		if got := numbers(x.Range("a", api.Span{Low: k})); !slices.Equal(got, want[i:]) {
			t.Errorf("from %d on: %v", n, got)
		}
		if got := numbers(x.Range("a", api.Span{High: k})); !slices.Equal(got, want[:i]) {
			t.Errorf("below %d: %v", n, got)
		}
		if got := numbers(x.Range("a", api.Span{Low: k, High: k + "\x00"})); !slices.Equal(got, []uint64{n}) {
			t.Errorf("%d alone: %v", n, got)
		}
		if got := numbers(x.Range("a", api.Span{Low: k, High: k})); len(got) != 0 {
			t.Errorf("an empty span at %d: %v", n, got)
		}
	}
	for _, s := range []api.Span{keys.Equal(value.Int(2)), keys.Equal(value.Int(4)), keys.Equal(value.None()), keys.Equal(value.Str("")), {Low: "x", High: "w"}, {Low: "\xff"}} {
		if got := numbers(x.Range("a", s)); len(got) != 0 {
			t.Errorf("%q: %v", s, got)
		}
	}
	sameSpans(t, "one value", x, p)
}

// A document that has no such field, or is no struct, has nothing there (Null), as one has whose field is Null.
func TestRangeOfWhatHasNoSuchField(t *testing.T) {
	x, _ := pairOf([]string{"a"}, row(1, 0, of("b", value.Int(1))), row(2, 0, num(0)), row(3, 0, of("a", value.None())), row(4, 0, value.None()), row(5, 0, value.Str("a")),
		row(6, 0, value.List(num(1))), row(7, 0, of("b", num(1))), row(8, 0, of("A", value.Int(1))), row(9, 0, of()))
	if got := numbers(x.Range("a", keys.Equal(value.None()))); !slices.Equal(got, []uint64{1, 3, 4, 5, 6, 7, 8, 9}) {
		t.Error(got)
	}
	if got := numbers(x.Range("a", api.Span{Low: keys.Next(keys.Of(value.None()))})); !slices.Equal(got, []uint64{2}) {
		t.Error(got)
	}
}

// spoil changes everything within a value that can be changed behind its lists.
func spoil(v api.Value) {
	for i := range v.Names {
		v.Names[i] = "spoilt"
	}
	for i := range v.Parts {
		spoil(v.Parts[i])
		v.Parts[i] = value.Str("spoilt")
	}
}

// nested is a document with lists and structs within one another.
func nested(n int64) api.Value {
	return of("a", value.List(of("x", value.Int(n)), value.List(value.Int(n))), "b", of("a", value.Int(n), "b", value.List()), "c", value.Int(n))
}

func nestedTable() (*Rows, *plain) {
	x, p := pairOf([]string{"a", "b", "c"})
	for i := range 9 {
		d := row(uint64(i), 0, nested(int64(i)))
		p.put(d)
		x.Put(d)
		spoil(d.V)
	}
	x.AddIndex("d")
	p.index("d")
	return x, p
}

func TestWhatIsHandedInMayBeChangedLater(t *testing.T) {
	x, p := nestedTable()
	sameSpans(t, "changed behind Put", x, p)
	// A list with room behind it is not written to, either.
	names, parts := []string{"a", "kept"}, []api.Value{value.Int(1), value.Str("kept")}
	x.Put(row(20, 0, api.Value{Kind: api.Struct, Names: names[:1], Parts: parts[:1]}))
	if names[1] != "kept" || parts[1].S != "kept" || names[0] != "a" || parts[0].N != 1 {
		t.Error(names, parts)
	}
	// The pairs of what goes are those that it had when it was put.
	for i := range 9 {
		if !x.Drop(uint64(i)) {
			t.Error(i, "was not there")
		}
	}
	for _, f := range x.Indexes() {
		if l := numbers(x.Range(f, keys.All())); !slices.Equal(l, []uint64{20}) {
			t.Errorf("index of %s: %v", f, l)
		}
	}
}

func TestPutChangesNothingOfWhatIsHandedIn(t *testing.T) {
	x, d := New(), nested(3)
	x.AddIndex("a")
	for range 2 {
		x.Put(row(1, 0, d))
		if !alike(d, nested(3)) {
			t.Error(d)
		}
	}
}

func TestWhatIsHandedOutMayBeChangedLater(t *testing.T) {
	x, p := nestedTable()
	seqs := []iter.Seq[api.Row]{x.All(), x.Range("a", keys.All()), x.Range("b", keys.All()), x.Range("c", keys.Equal(value.Int(3)))}
	for range 2 {
		for i := range 9 {
			d, _ := x.Get(uint64(i))
			spoil(d.V)
		}
		sameSpans(t, "what Get told is changed", x, p)
		for _, seq := range seqs {
			for d := range seq {
				spoil(d.V)
			}
			sameSpans(t, "what was gone over is changed", x, p)
		}
	}
	if l := collect(seqs[0]); !alikeRows(l, p.all()) {
		t.Errorf("gone over again: %v", l)
	}
	one, _ := x.Get(3)
	two, _ := x.Get(3)
	spoil(one.V)
	if !alike(two.V, nested(3)) {
		t.Error("two answers share lists")
	}
}

// What All and Range answer is the caller's own: the documents as they were when it was asked for.
func TestChangedWhileGoneOver(t *testing.T) {
	ask := map[string]func(*Rows) iter.Seq[api.Row]{
		"All":   func(x *Rows) iter.Seq[api.Row] { return x.All() },
		"Range": func(x *Rows) iter.Seq[api.Row] { return x.Range("a", keys.All()) },
	}
	for what, seq := range ask {
		x, p := pairOf([]string{"a"})
		for i := range 50 {
			x.Put(row(uint64(i), 0, num(int64(i))))
			p.put(row(uint64(i), 0, num(int64(i))))
		}
		l := seq(x)
		var got []api.Row
		for d := range l {
			got = append(got, d)
			x.Drop(d.Doc)
			x.Put(row(d.Doc+1000, 0, num(int64(d.Doc)+1000)))
			x.Put(row((d.Doc+1)%50+1000, 7, num(3)))
			x.Drop(d.Doc + 1)
			x.AddIndex(fmt.Sprint("f", d.Doc))
		}
		if !alikeRows(got, p.all()) || !alikeRows(collect(l), p.all()) {
			t.Errorf("%s: %v", what, got)
		}
		if want := numbers(x.All()); x.Len() != 50 || want[0] != 1000 || want[49] != 1049 {
			t.Errorf("%s: %v are left", what, want)
		}
	}
}

func TestCloneIsTheSame(t *testing.T) {
	for n := range 40 {
		x, p := pairOf([]string{"a", "b"})
		for i := range n {
			d := row(uint64(i*7%41), uint64(i), of("a", value.Int(int64(i%5)), "b", value.Str(fmt.Sprint(i))))
			x.Put(d)
			p.put(d)
		}
		c := x.Clone()
		sameSpans(t, "the clone", c, p)
		sameSpans(t, "a clone of the clone", c.Clone(), p)
		sameSpans(t, "what was cloned", x, p)
	}
	same(t, "a clone of an empty one", New().Clone(), &plain{})
	bare, p := pairOf(nil, row(1, 2, num(3)))
	same(t, "a clone without indexes", bare.Clone(), p)
}

func TestCloneGoesItsOwnWay(t *testing.T) {
	change := map[string]func(x *Rows, p *plain){
		"put of a new one":        func(x *Rows, p *plain) { x.Put(row(99, 0, nested(5))); p.put(row(99, 0, nested(5))) },
		"put in another's place":  func(x *Rows, p *plain) { x.Put(row(4, 1, nested(70))); p.put(row(4, 1, nested(70))) },
		"put of what has nothing": func(x *Rows, p *plain) { x.Put(row(4, 1, of())); p.put(row(4, 1, of())) },
		"drop":                    func(x *Rows, p *plain) { x.Drop(4); p.drop(4) },
		"an index":                func(x *Rows, p *plain) { x.AddIndex("new"); p.index("new") },
		"all go": func(x *Rows, p *plain) {
			for i := range 9 {
				x.Drop(uint64(i))
				p.drop(uint64(i))
			}
		},
		"what is told is changed": func(x *Rows, p *plain) {
			for d := range x.All() {
				spoil(d.V)
			}
		},
	}
	for what, f := range change {
		x, p := nestedTable()
		c, q := x.Clone(), p.clone()
		f(c, q)
		sameSpans(t, what+", of the clone: the clone", c, q)
		sameSpans(t, what+", of the clone: the other one", x, p)

		x, p = nestedTable()
		c, q = x.Clone(), p.clone()
		f(x, p)
		sameSpans(t, what+", of what was cloned: it", x, p)
		sameSpans(t, what+", of what was cloned: the clone", c, q)
		for again, g := range change {
			d, r := x.Clone(), p.clone()
			g(d, r)
			sameSpans(t, what+", "+again+": the clone", d, r)
			sameSpans(t, what+", "+again+": what was cloned", x, p)
		}
	}
	empty := New()
	c := empty.Clone()
	c.Put(row(1, 0, num(1)))
	c.AddIndex("a")
	if empty.Len() != 0 || len(empty.Indexes()) != 0 || c.Len() != 1 || !slices.Equal(c.Indexes(), []string{"a"}) {
		t.Error("a clone of an empty one is it")
	}
}

func TestNilTable(t *testing.T) {
	var x *Rows
	for range 2 {
		x.Put(row(1, 0, num(1)))
		if x.Drop(1) || x.Drop(0) || x.AddIndex("a") || x.AddIndex("") {
			t.Error("yes")
		}
		same(t, "nil", x, &plain{})
		if l := numbers(x.Range("a", api.Span{Low: "a", High: "b"})); len(l) != 0 {
			t.Error(l)
		}
		stops(t, "All", x.All())
		stops(t, "Range", x.Range("a", keys.All()))
		if x.Clone() != nil {
			t.Error("a clone of nothing is something")
		}
	}
}

// R1: a table that New did not make answers like one that it made.
func TestTableThatNewDidNotMake(t *testing.T) {
	for _, x := range []*Rows{new(Rows), new(Rows).Clone()} {
		same(t, "zero", x, &plain{})
		if x.Drop(1) {
			t.Error("Drop")
		}
		y, p := x.Clone(), &plain{}
		same(t, "its clone", y, p)
		x.Put(row(1, 0, num(1)))
		p.put(row(1, 0, num(1)))
		same(t, "a document", x, p)
		if !y.AddIndex("a") {
			t.Error("AddIndex")
		}
		same(t, "an index", y, &plain{fields: []string{"a"}})
	}
}

// R1: whatever is handed in, no call panics; each document is there once, and its pairs go with it.
func TestDocumentsThatMayNotBe(t *testing.T) {
	deep := value.Int(1)
	for range 2000 {
		deep = api.Value{Kind: api.List, Parts: []api.Value{deep}}
	}
	odd := []api.Value{
		{Kind: 7}, {Kind: -1}, {Kind: 256}, {Kind: math.MaxInt}, {Kind: math.MinInt, N: 3, B: true, S: "x"},
		{Kind: api.Null, Parts: []api.Value{num(1)}, Names: []string{"a"}},
		{Kind: api.List, Parts: []api.Value{num(1)}, Names: []string{"a"}},
		{Kind: api.Struct, Names: []string{"a", "b"}, Parts: []api.Value{value.Int(1)}},
		{Kind: api.Struct, Names: []string{"b"}, Parts: []api.Value{value.Int(1), value.Int(2)}},
		{Kind: api.Struct, Names: []string{"a", "a"}, Parts: []api.Value{value.Int(1), value.Int(2)}},
		{Kind: api.Struct, Names: []string{"b", "a", ""}, Parts: []api.Value{value.Int(1), {Kind: 300}, value.Int(4)}},
		{Kind: api.Struct, Names: []string{"a"}, Parts: []api.Value{{Kind: api.Struct, Names: nil, Parts: []api.Value{value.Int(1)}}}},
		{Kind: api.Struct, Names: []string{"a"}, Parts: []api.Value{deep}}, deep,
		of("a", value.Str(strings.Repeat("\x00", 5000))), {Kind: api.Struct, Names: make([]string, 100), Parts: make([]api.Value, 100)},
	}
	for first := range odd {
		x := New()
		x.AddIndex("a")
		x.AddIndex("")
		for i := range odd {
			x.Put(row(uint64(i), 0, odd[i]))
		}
		x.AddIndex("b")
		x.Put(row(0, 1, odd[first]))
		c := x.Clone()
		for _, y := range []*Rows{x, c} {
			for _, f := range []string{"", "a", "b"} {
				l := numbers(y.Range(f, keys.All()))
				slices.Sort(l)
				if !slices.Equal(l, numbers(y.All())) || len(l) != len(odd) || y.Len() != len(odd) {
					t.Fatalf("index of %q: %v", f, l)
				}
			}
		}
		for i := range odd {
			if d, ok := x.Get(uint64(i)); !ok || i > 0 && !alike(d.V, odd[i]) || !x.Drop(uint64(i)) || x.Drop(uint64(i)) {
				t.Errorf("document %d: %v", i, ok)
			}
		}
		for _, f := range []string{"", "a", "b"} {
			if l := numbers(x.Range(f, keys.All())); len(l) != 0 {
				t.Errorf("left in the index of %q: %v", f, l)
			}
		}
	}
}

// chance is a document whose fields come from few values, so that many have the same one, or none.
func chance(r *rand.Rand) api.Value {
	v, all := of(), kinds()
	for _, name := range []string{"a", "b", "c"} {
		switch r.Intn(4) {
		case 0:
			v = value.With(v, name, all[r.Intn(len(all))])
		case 1, 2:
			v = value.With(v, name, value.Int(int64(r.Intn(4))))
		}
	}
	if r.Intn(30) == 0 {
		return value.None()
	}
	return v
}

// step does one thing to each table.
func step(t *testing.T, r *rand.Rand, p *plain, l ...*Rows) {
	t.Helper()
	n := uint64(r.Intn(60))
	if r.Intn(3) == 0 {
		n = ends()[r.Intn(len(ends()))]
	}
	switch r.Intn(5) {
	case 0, 1, 2:
		d := row(n, uint64(r.Intn(9)), chance(r))
		p.put(d)
		for _, x := range l {
			x.Put(d)
		}
	default:
		was := p.drop(n)
		for _, x := range l {
			if x.Drop(n) != was {
				t.Fatalf("Drop(%d) is %v", n, !was)
			}
		}
	}
}

// Many documents come and go, held against a plain list; one table has its indexes from the first on, the other one gets them later.
func TestManyComeAndGo(t *testing.T) {
	for seed := range 4 {
		r := rand.New(rand.NewSource(int64(seed)))
		ahead, p := pairOf([]string{"b", "a", "c"})
		behind, q := pairOf(nil)
		for i := range 400 {
			step(t, r, p, ahead, behind)
			q.docs = p.docs
			if i%130 == 129 {
				field := []string{"c", "a", "b"}[i/130]
				if !behind.AddIndex(field) || ahead.AddIndex(field) {
					t.Fatalf("AddIndex of %q", field)
				}
				q.index(field)
			}
			what := fmt.Sprint("seed ", seed, ", step ", i)
			same(t, what, ahead, p)
			same(t, what, behind, q)
			if i%130 == 129 {
				sameSpans(t, what, ahead, p)
				sameSpans(t, what, behind, q)
			}
			if i%100 == 99 {
				ahead, behind = ahead.Clone(), behind.Clone()
			}
		}
	}
}

// Clones go apart while documents come and go.
func TestManyClones(t *testing.T) {
	r := rand.New(rand.NewSource(5))
	tables := []*Rows{New()}
	plains := []*plain{{}}
	for i := range 600 {
		at := r.Intn(len(tables))
		if r.Intn(8) == 0 {
			c, q := tables[at].Clone(), plains[at].clone()
			if len(tables) < 12 {
				tables, plains = append(tables, c), append(plains, q)
			} else {
				to := r.Intn(len(tables))
				tables[to], plains[to] = c, q
			}
		}
		if r.Intn(15) == 0 {
			f := string(rune('a' + r.Intn(3)))
			if tables[at].AddIndex(f) != plains[at].index(f) {
				t.Fatalf("AddIndex(%q)", f)
			}
		}
		step(t, r, plains[at], tables[at])
		if i%10 == 9 {
			for k := range tables {
				same(t, fmt.Sprint("step ", i, ", table ", k), tables[k], plains[k])
			}
		}
	}
	for k := range tables {
		sameSpans(t, fmt.Sprint("table ", k), tables[k], plains[k])
	}
}

// R4: the same calls in the same order answer the same, whatever order maps are gone over in.
func TestTheSameCallsAnswerTheSame(t *testing.T) {
	run := func() (l []api.Row, fields []string) {
		r := rand.New(rand.NewSource(9))
		x, p := pairOf([]string{"c", "a", "b", "d", "e"})
		for range 200 {
			step(t, r, p, x)
		}
		for _, f := range x.Indexes() {
			l = append(l, collect(x.Range(f, keys.All()))...)
		}
		return append(l, collect(x.All())...), x.Indexes()
	}
	first, fields := run()
	for range 10 {
		l, f := run()
		if !alikeRows(l, first) || !slices.Equal(f, fields) {
			t.Fatal("another answer")
		}
	}
}

// A table of many documents is told at once, not by looking for each one anew.
func TestGreatTable(t *testing.T) {
	const n = 20000
	x := New()
	x.AddIndex("a")
	for i := range n {
		x.Put(row(uint64(i*7919%n), 0, num(int64(i%100))))
	}
	x.AddIndex("b")
	if got := numbers(x.All()); len(got) != n || !slices.IsSorted(got) || x.Len() != n {
		t.Error(len(got), x.Len())
	}
	if got := numbers(x.Range("a", keys.Equal(value.Int(42)))); len(got) != n/100 || !slices.IsSorted(got) {
		t.Error(len(got))
	}
	if got := numbers(x.Range("b", keys.Equal(value.None()))); len(got) != n || !slices.IsSorted(got) {
		t.Error(len(got))
	}
	c := x.Clone()
	for i := range n {
		if !x.Drop(uint64(i)) {
			t.Fatal(i)
		}
	}
	if x.Len() != 0 || len(numbers(x.Range("a", keys.All()))) != 0 || c.Len() != n || len(numbers(c.Range("a", keys.All()))) != n {
		t.Error(x.Len(), c.Len())
	}
}

// A clone that is only looked at costs nothing, however great the table is; one that is changed leaves the other as it was.
func TestClonesOfAGreatTable(t *testing.T) {
	const n = 5000
	x := New()
	x.AddIndex("a")
	for i := range n {
		x.Put(row(uint64(i), 0, num(int64(i))))
	}
	looked := testing.AllocsPerRun(20, func() {
		if d, is := x.Clone().Get(n / 2); !is || d.Doc != n/2 {
			t.Error(d, is)
		}
	})
	if looked > 50 {
		t.Error("to look at a clone takes", looked, "pieces of memory")
	}
	for i := range 50 {
		c := x.Clone()
		x.Put(row(uint64(i), 1, num(int64(i+n))))
		c.Drop(uint64(i))
		if x.Len() != n || c.Len() != n-1 || len(numbers(x.Range("a", keys.Equal(value.Int(int64(i+n)))))) != 1 {
			t.Fatal(i, x.Len(), c.Len())
		}
	}
}
