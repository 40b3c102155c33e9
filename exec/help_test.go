package exec

import (
	"fmt"
	"maps"
	"slices"
	"strconv"
	"strings"
	"testing"

	"parchment/api"
	"parchment/buffer"
	"parchment/keys"
	"parchment/syntax"
	"parchment/value"
	"parchment/views"
)

// world is what is committed, and what a transaction did.
type world struct {
	t *testing.T
	v *views.View
	b *buffer.Buffer
}

func newWorld(t *testing.T) *world {
	v := views.New()
	return &world{t: t, v: v, b: buffer.New(v)}
}

// tableOf is a world with a table t, in which stand documents of texts; what made them is committed.
func tableOf(t *testing.T, docs ...string) *world {
	t.Helper()
	w := newWorld(t)
	w.must("CREATE TABLE t")
	for _, d := range docs {
		w.must("INSERT INTO t VALUE " + d)
	}
	w.commit()
	return w
}

// parsed is the statement that a text says.
func parsed(t *testing.T, text string) api.Stmt {
	t.Helper()
	s, at, e := syntax.Parse(text)
	if e != api.OK {
		t.Fatalf("%s: error %d at %d", text, e, at)
	}
	return s
}

// run runs a statement in the transaction.
func (w *world) run(text string) (api.Result, api.Errno) {
	w.t.Helper()
	r, b, e := Run(w.v, w.b, parsed(w.t, text))
	w.b = b
	return r, e
}

// must runs statements that have no error: the last one's answer.
func (w *world) must(texts ...string) api.Result {
	w.t.Helper()
	var last api.Result
	for _, text := range texts {
		r, e := w.run(text)
		if e != api.OK {
			w.t.Fatalf("%s: error %d", text, e)
		}
		last = r
	}
	return last
}

// commit commits what the transaction did; another one begins.
func (w *world) commit() {
	w.t.Helper()
	if e := w.v.Apply(api.Block{Seq: w.v.Seq(), Revs: buffer.Final(w.b.Revs(), w.v.Next())}); e != api.OK {
		w.t.Fatal("a block that does not fit: error", e)
	}
	w.b = buffer.New(w.v)
}

// rows holds the rows that a statement answers against texts.
func (w *world) rows(text string, want ...string) {
	w.t.Helper()
	r := w.must(text)
	if got := shown(r.Rows); !slices.Equal(got, want) {
		w.t.Errorf("%s:\n%s, want\n%s", text, strings.Join(got, "; "), strings.Join(want, "; "))
	}
	if r.Changed != 0 {
		w.t.Errorf("%s: changed %d", text, r.Changed)
	}
}

// changes holds how many documents a statement changed against a number.
func (w *world) changes(text string, want int) {
	w.t.Helper()
	if r := w.must(text); r.Changed != want || len(r.Rows) != 0 {
		w.t.Errorf("%s: changed %d, rows %v; want %d and none", text, r.Changed, r.Rows, want)
	}
}

// fails holds a statement against an error that leaves everything as it was.
func (w *world) fails(text string, want api.Errno) {
	w.t.Helper()
	fails(w.t, w.v, w.b, parsed(w.t, text), want)
}

// fails runs a statement that must have an error: nothing but it, what was looked at and the transaction as it was is told. It tells what was looked at.
func fails(t *testing.T, v *views.View, b *buffer.Buffer, s api.Stmt, want api.Errno) []api.Read {
	t.Helper()
	ahead := told(b)
	r, c, e := Run(v, b, s)
	if e != want || len(r.Rows) != 0 || r.Changed != 0 {
		t.Errorf("%v: error %d, changed %d, rows %v; want error %d alone", s, e, r.Changed, r.Rows, want)
	}
	if told(b) != ahead || told(c) != ahead {
		t.Errorf("%v: behind an error\n%s, and handed in\n%s, want\n%s", s, told(c), told(b), ahead)
	}
	return r.Reads
}

// show is a value as a text.
func show(v api.Value) string {
	switch v.Kind {
	case api.Null:
		return "NULL"
	case api.Bool:
		return strings.ToUpper(strconv.FormatBool(v.B))
	case api.Int:
		return strconv.FormatInt(v.N, 10)
	case api.Str:
		return "'" + v.S + "'"
	case api.Bytes:
		return fmt.Sprintf("x'%x'", v.S)
	case api.List:
		return "[" + strings.Join(shown(v.Parts), ", ") + "]"
	}
	parts := shown(v.Parts)
	for i := range parts {
		parts[i] = v.Names[i] + ": " + parts[i]
	}
	return "{" + strings.Join(parts, ", ") + "}"
}

// shown is values as texts.
func shown(l []api.Value) []string {
	var out []string
	for _, v := range l {
		out = append(out, show(v))
	}
	return out
}

// told is everything that a buffer tells, as a text.
func told(b *buffer.Buffer) string {
	var s strings.Builder
	c := b.Catalog()
	for _, table := range slices.Sorted(maps.Keys(c)) {
		fmt.Fprintf(&s, "%s %q %q\n", table, c[table], fmt.Sprint(b.All(table)))
		for _, field := range c[table] {
			fmt.Fprintf(&s, "by %s %q\n", field, fmt.Sprint(b.Range(table, field, keys.All())))
		}
	}
	fmt.Fprintf(&s, "%q\n", fmt.Sprint(b.Revs()))
	return s.String()
}

// answer is a statement's answer, as a text.
func answer(r api.Result, e api.Errno) string {
	return fmt.Sprintf("%q, changed %d, looks %q, error %d", shown(r.Rows), r.Changed, r.Reads, e)
}

// spoil changes everything within a value that can be changed behind its lists.
func spoil(v api.Value) {
	for i := range v.Names {
		v.Names[i] = "spoilt"
	}
	for i := range v.Parts {
		spoil(v.Parts[i])
		v.Parts[i] = value.Str("spoilt")
	}
}

// spoilExpr does likewise within an expression.
func spoilExpr(x api.Expr) {
	spoil(x.V)
	for i := range x.Names {
		x.Names[i] = "spoilt"
	}
	for i := range x.Kids {
		spoilExpr(x.Kids[i])
		x.Kids[i] = api.Expr{}
	}
}

// lit is the expression that is a value.
func lit(v api.Value) api.Expr { return api.Expr{Kind: api.ExprLit, V: v} }
