package buffer

import (
	"fmt"
	"maps"
	"slices"
	"strings"
	"testing"

	"parchment/api"
	"parchment/block"
	"parchment/keys"
	"parchment/value"
	"parchment/views"
)

// of is a struct of names with values behind them by turns.
func of(l ...any) api.Value {
	v := value.Struct(nil, nil)
	for i := 0; i < len(l); i += 2 {
		v = value.With(v, l[i].(string), l[i+1].(api.Value))
	}
	return v
}

// num is a document whose field a is a number.
func num(n int64) api.Value { return of("a", value.Int(n)) }

// bytesOf is a document's bytes.
func bytesOf(v api.Value) string {
	s, e := value.Encode(v)
	if e != api.OK {
		panic(e)
	}
	return s
}

func made(table string) api.Rev { return api.Rev{Op: api.OpTable, Table: table} }

func index(table, field string) api.Rev {
	return api.Rev{Op: api.OpIndex, Table: table, Field: field}
}

func insert(table string, doc uint64, v api.Value) api.Rev {
	return block.Sealed(api.Rev{Op: api.OpInsert, Table: table, Doc: doc, Body: bytesOf(v)})
}

func update(table string, doc, version uint64, v api.Value) api.Rev {
	return block.Sealed(api.Rev{Op: api.OpUpdate, Table: table, Doc: doc, Version: version, Body: bytesOf(v)})
}

func remove(table string, doc, version uint64) api.Rev {
	return api.Rev{Op: api.OpDelete, Table: table, Doc: doc, Version: version}
}

func row(doc, version uint64, v api.Value) api.Row {
	return api.Row{Doc: doc, Version: version, V: v}
}

// commit does revisions that must fit as the view's next block.
func commit(t *testing.T, v *views.View, l ...api.Rev) {
	t.Helper()
	if e := v.Apply(api.Block{Seq: v.Seq(), Revs: l}); e != api.OK {
		t.Fatalf("a block that does not fit: error %d, %v", e, l)
	}
}

// committed is a view of a table t with an index of a, and documents of numbers, from 1 on.
func committed(t *testing.T, l ...int64) *views.View {
	t.Helper()
	v := views.New()
	commit(t, v, made("t"), index("t", "a"))
	for i, n := range l {
		commit(t, v, insert("t", uint64(i+1), num(n)))
	}
	return v
}

// may fails the test, if there is an error.
func may(t *testing.T, l ...api.Errno) {
	t.Helper()
	for i, e := range l {
		if e != api.OK {
			t.Fatalf("call %d: error %d", i, e)
		}
	}
}

func wantErr(t *testing.T, what string, got, want api.Errno) {
	t.Helper()
	if got != want {
		t.Errorf("%s: error %d, want %d", what, got, want)
	}
}

// mustInsert is the number of a document that is made.
func mustInsert(t *testing.T, b *Buffer, table string, v api.Value) uint64 {
	t.Helper()
	n, e := b.Insert(table, v)
	if e != api.OK {
		t.Fatal("Insert: error", e)
	}
	return n
}

// alike holds two values against each other in all that they have; lists that are empty and nil are the same.
func alike(a, b api.Value) bool {
	return a.Kind == b.Kind && a.B == b.B && a.N == b.N && a.S == b.S &&
		slices.Equal(a.Names, b.Names) && slices.EqualFunc(a.Parts, b.Parts, alike)
}

func alikeRow(a, b api.Row) bool {
	return a.Doc == b.Doc && a.Version == b.Version && alike(a.V, b.V)
}

func alikeTouch(a, b api.Touch) bool {
	return a.Table == b.Table && a.Shape == b.Shape && a.Was == b.Was && a.Is == b.Is && alike(a.Old, b.Old) && alike(a.New, b.New)
}

func wantRows(t *testing.T, what string, got []api.Row, want ...api.Row) {
	t.Helper()
	if !slices.EqualFunc(got, want, alikeRow) {
		t.Errorf("%s:\n%v, want\n%v", what, got, want)
	}
}

func wantTouches(t *testing.T, what string, got []api.Touch, want ...api.Touch) {
	t.Helper()
	if !slices.EqualFunc(got, want, alikeTouch) {
		t.Errorf("%s:\n%v, want\n%v", what, got, want)
	}
}

func wantRevs(t *testing.T, what string, got []api.Rev, want ...api.Rev) {
	t.Helper()
	if !slices.Equal(got, want) {
		t.Errorf("%s:\n%v, want\n%v", what, got, want)
	}
}

func wantCatalog(t *testing.T, what string, got, want api.Catalog) {
	t.Helper()
	if !maps.EqualFunc(got, want, slices.Equal[[]string]) {
		t.Errorf("%s: %v, want %v", what, got, want)
	}
}

// numbers is the numbers of documents.
func numbers(l []api.Row) []uint64 {
	var out []uint64
	for _, x := range l {
		out = append(out, x.Doc)
	}
	return out
}

// told is everything that a buffer tells, as a text.
func told(b *Buffer) string {
	var s strings.Builder
	c := b.Catalog()
	for _, table := range slices.Sorted(maps.Keys(c)) {
		fmt.Fprintf(&s, "%s %q\nall ", table, c[table])
		tell(&s, b.All(table))
		for _, field := range c[table] {
			fmt.Fprintf(&s, "by %s ", field)
			tell(&s, b.Range(table, field, keys.All()))
		}
	}
	fmt.Fprintf(&s, "%q\n", fmt.Sprint(b.Revs()))
	return s.String()
}

func tell(s *strings.Builder, l []api.Row) {
	for _, x := range l {
		fmt.Fprintf(s, "%d.%d=%q ", x.Doc, x.Version, fmt.Sprint(x.V))
	}
	s.WriteString("\n")
}

// spoil changes all that a value's lists have.
func spoil(v api.Value) {
	for i := range v.Parts {
		spoil(v.Parts[i])
		v.Parts[i] = value.Str("spoilt")
	}
	for i := range v.Names {
		v.Names[i] = "spoilt"
	}
}

func spoilAll(l []api.Row) {
	for i := range l {
		spoil(l[i].V)
		l[i] = api.Row{}
	}
}

// badNames is texts that are no names.
func badNames() []string {
	return []string{"", "1a", "a b", "a.b", "a-", "é", "\x00", "a\x00", strings.Repeat("n", api.MaxName+1)}
}

// bad is a struct that may not be, and the error of it.
type bad struct {
	what string
	v    api.Value
	e    api.Errno
}

func badStructs() []bad {
	deep := num(1)
	for range api.MaxDeep - 1 {
		deep = of("a", deep)
	}
	many := value.List(make([]api.Value, api.MaxParts+1)...)
	return []bad{
		{"too deep", deep, api.ErrDeep},
		{"a part of no kind", of("a", api.Value{Kind: 7}), api.ErrForm},
		{"something that its kind has not", api.Value{Kind: api.Struct, N: 1}, api.ErrForm},
		{"too many parts", of("a", many), api.ErrLimit},
		{"no name", of("1", value.None()), api.ErrName},
		{"names that do not rise", api.Value{Kind: api.Struct, Names: []string{"b", "a"}, Parts: make([]api.Value, 2)}, api.ErrName},
		{"a name without a part", api.Value{Kind: api.Struct, Names: []string{"a"}}, api.ErrName},
		{"too many bytes", of("a", value.Str(strings.Repeat("x", api.MaxValue))), api.ErrLimit},
	}
}

// noStructs is values of all other kinds, and of none.
func noStructs() []api.Value {
	return []api.Value{
		value.None(), value.Bool(true), value.Int(1), value.Str("a"), value.Bytes("a"), value.List(num(1)),
		{Kind: 7}, {Kind: -1}, {Kind: 262}, {Names: []string{"a"}, Parts: []api.Value{value.Int(1)}},
	}
}
