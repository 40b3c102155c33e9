package exec

import (
	"math"
	"slices"
	"strings"
	"testing"

	"parchment/api"
	"parchment/block"
	"parchment/hash"
	"parchment/value"
)

func body(t *testing.T, v api.Value) string {
	t.Helper()
	s, e := value.Encode(v)
	if e != api.OK {
		t.Fatal(e)
	}
	return s
}

func TestPast(t *testing.T) {
	v := value.Struct([]string{"a", "b"}, []api.Value{value.Int(1), value.List(value.Str("x"))})
	written := block.Sealed(api.Rev{Op: api.OpInsert, Table: "t", Doc: 3, Body: body(t, v)})
	gone := written
	gone.Body, gone.Gone = "", true
	digest := "x'" + strings.TrimPrefix(strings.TrimSuffix(show(value.Bytes(hash.Leaf(body(t, v)))), "'"), "x'") + "'"
	for _, x := range []struct {
		p    api.Past
		want string
	}{
		{api.Past{Seq: 7, Index: 2, Rev: written}, "{block: 7, data: {a: 1, b: ['x']}, doc: 3, gone: FALSE, hash: " + digest + ", op: 3, place: 2, version: 0}"},
		{api.Past{Seq: 8, Index: 0, Rev: gone}, "{block: 8, data: NULL, doc: 3, gone: TRUE, hash: " + digest + ", op: 3, place: 0, version: 0}"},
		{api.Past{Seq: 9, Index: 63, Rev: api.Rev{Op: api.OpDelete, Table: "t", Doc: 3, Version: 4}}, "{block: 9, data: NULL, doc: 3, gone: FALSE, hash: x'', op: 5, place: 63, version: 4}"},
		{api.Past{Rev: api.Rev{Op: api.OpUpdate, Doc: 1, Version: 2, Hash: "h", Body: "no value"}}, "{block: 0, data: NULL, doc: 1, gone: FALSE, hash: x'68', op: 4, place: 0, version: 2}"},
		{api.Past{Rev: api.Rev{Op: api.OpTable, Table: "t"}}, "{block: 0, data: NULL, doc: 0, gone: FALSE, hash: x'', op: 1, place: 0, version: 0}"},
		{api.Past{Seq: math.MaxInt64, Index: math.MaxInt64, Rev: api.Rev{Op: 9, Doc: math.MaxInt64, Version: math.MaxInt64}},
			"{block: 9223372036854775807, data: NULL, doc: 9223372036854775807, gone: FALSE, hash: x'', op: 9, place: 9223372036854775807, version: 9223372036854775807}"},
		{api.Past{}, "{block: 0, data: NULL, doc: 0, gone: FALSE, hash: x'', op: 0, place: 0, version: 0}"},
	} {
		if got := show(Past(x.p)); got != x.want {
			t.Errorf("Past(%v):\n%s, want\n%s", x.p, got, x.want)
		}
	}
}

func TestPastIsTheCallersOwn(t *testing.T) {
	p := api.Past{Rev: block.Sealed(api.Rev{Op: api.OpInsert, Doc: 1, Body: body(t, value.Struct([]string{"a"}, []api.Value{value.List(value.Int(1))}))})}
	want := show(Past(p))
	spoil(Past(p))
	if got := show(Past(p)); got != want {
		t.Error(got)
	}
}

// history is a table with some revisions of documents, among others.
func history(t *testing.T) *world {
	t.Helper()
	w := newWorld(t)
	w.must("CREATE TABLE t", "CREATE TABLE u")
	w.commit()
	w.must("INSERT INTO u VALUE {}", "INSERT INTO t VALUE {a: 1}", "CREATE INDEX ON t (a)", "INSERT INTO t VALUE {a: 2}")
	w.commit()
	w.must("UPDATE t SET a = a + 10", "INSERT INTO t VALUE {a: 3, b: {c: 'x'}}")
	w.commit()
	w.must("DELETE FROM u", "DELETE FROM t WHERE a = 11")
	w.commit()
	return w
}

func TestHistory(t *testing.T) {
	w := history(t)
	var want []string
	for _, p := range w.v.Past("t") {
		if p.Rev.Op != api.OpTable && p.Rev.Op != api.OpIndex {
			want = append(want, show(Past(p)))
		}
	}
	if len(want) != 6 {
		t.Fatal(want)
	}
	w.rows("SELECT * FROM HISTORY (t)", want...)
	w.rows("SELECT block, place, doc, version, op, gone, data FROM HISTORY (t)",
		"{block: 1, data: {a: 1}, doc: 2, gone: FALSE, op: 3, place: 1, version: 0}",
		"{block: 1, data: {a: 2}, doc: 3, gone: FALSE, op: 3, place: 3, version: 0}",
		"{block: 2, data: {a: 11}, doc: 2, gone: FALSE, op: 4, place: 0, version: 1}",
		"{block: 2, data: {a: 12}, doc: 3, gone: FALSE, op: 4, place: 1, version: 1}",
		"{block: 2, data: {a: 3, b: {c: 'x'}}, doc: 4, gone: FALSE, op: 3, place: 2, version: 0}",
		"{block: 3, data: NULL, doc: 2, gone: FALSE, op: 5, place: 1, version: 2}",
	)
	for _, x := range w.must("SELECT hash, data FROM HISTORY (t)").Rows {
		digest := ""
		if d := value.Get(x, "data"); d.Kind == api.Struct {
			digest = hash.Leaf(body(t, d))
		}
		if got := value.Get(x, "hash"); !value.Same(got, value.Bytes(digest)) {
			t.Errorf("%s, want %x", show(got), digest)
		}
	}
}

// It is asked as documents are.
func TestHistoryIsAsked(t *testing.T) {
	w := history(t)
	w.rows("SELECT block, place FROM HISTORY (t) WHERE op = 4", "{block: 2, place: 0}", "{block: 2, place: 1}")
	w.rows("SELECT version FROM HISTORY (t) WHERE doc = 2 ORDER BY version DESC", "{version: 2}", "{version: 1}", "{version: 0}")
	w.rows("SELECT data.a, data.b.c FROM HISTORY (t) WHERE data.a > 2 ORDER BY data.a LIMIT 2", "{data.a: 3, data.b.c: 'x'}", "{data.a: 11, data.b.c: NULL}")
	w.rows("SELECT COUNT FROM HISTORY (t)", "6")
	w.rows("SELECT COUNT FROM HISTORY (t) WHERE data IS NULL", "1")
	w.rows("SELECT COUNT FROM HISTORY (t) LIMIT 4", "4")
	w.rows("SELECT doc FROM HISTORY (t) ORDER BY doc DESC", "{doc: 4}", "{doc: 3}", "{doc: 3}", "{doc: 2}", "{doc: 2}", "{doc: 2}")
	w.rows("SELECT doc, version FROM HISTORY (t) ORDER BY op LIMIT 4", "{doc: 2, version: 0}", "{doc: 3, version: 0}", "{doc: 4, version: 0}", "{doc: 2, version: 1}")
	// A field of documents is none of it, though it has an index: a path to it goes by data.
	w.rows("SELECT a FROM HISTORY (t) WHERE a = 1")
	w.rows("SELECT a FROM HISTORY (t) WHERE a IS NULL AND doc = 4", "{a: NULL}")
	w.rows("SELECT * FROM HISTORY (t) WHERE hash = x''", show(Past(w.v.Past("t")[7])))
}

// An index of a field that has a name of the history's own finds documents, not revisions.
func TestHistoryAsksNoIndex(t *testing.T) {
	w := tableOf(t, "{doc: 7, op: 1}", "{doc: 8}")
	w.must("CREATE INDEX ON t (doc)", "CREATE INDEX ON t (op)")
	w.commit()
	w.rows("SELECT doc FROM HISTORY (t) WHERE doc = 2", "{doc: 2}")
	w.rows("SELECT doc FROM HISTORY (t) WHERE doc = 7")
	w.rows("SELECT doc FROM HISTORY (t) WHERE op = 3 AND doc < 9", "{doc: 1}", "{doc: 2}")
	w.rows("SELECT doc FROM t WHERE doc = 7", "{doc: 7}")
}

// What the transaction did is no history yet.
func TestHistoryIsCommitted(t *testing.T) {
	w := history(t)
	ahead := shown(w.must("SELECT * FROM HISTORY (t)").Rows)
	w.must("INSERT INTO t VALUE {a: 7}", "UPDATE t SET a = 0", "DELETE FROM t", "CREATE TABLE own", "INSERT INTO own VALUE {}")
	w.rows("SELECT * FROM HISTORY (t)", ahead...)
	w.rows("SELECT * FROM HISTORY (own)")
	w.rows("SELECT COUNT FROM HISTORY (own)", "0")
	w.commit()
	w.rows("SELECT COUNT FROM HISTORY (t)", "13")
	w.rows("SELECT COUNT FROM HISTORY (own)", "1")
}

// Of a revision that was taken out there are its hash, and gone TRUE; the document is as it was.
func TestHistoryOfWhatIsGone(t *testing.T) {
	w := history(t)
	digest := value.Get(w.must("SELECT hash FROM HISTORY (t) WHERE block = 1 AND place = 3").Rows[0], "hash")
	if !w.v.Erase(1, 3) {
		t.Fatal("there is nothing to take out")
	}
	w.rows("SELECT block, place, hash, data FROM HISTORY (t) WHERE gone", "{block: 1, data: NULL, hash: "+show(digest)+", place: 3}")
	w.rows("SELECT place FROM HISTORY (t) WHERE block = 1 AND NOT gone", "{place: 1}")
	w.rows("SELECT a FROM t", "{a: 12}", "{a: 3}")
	if s := strings.Join(shown(w.must("SELECT * FROM HISTORY (t)").Rows), " "); strings.Contains(s, "{a: 2}") {
		t.Error(s)
	}
}

// A document that is nested as deeply as may be stands in its row whole.
func TestHistoryOfDeepDocuments(t *testing.T) {
	deep := "{a: [[[[[[1]]]]]]}"
	w := tableOf(t, deep, "{s: '"+strings.Repeat("x", 1000)+"'}")
	r := w.must("SELECT data FROM HISTORY (t)")
	if got := shown(r.Rows); !slices.Equal(got, []string{"{data: " + deep + "}", "{data: {s: '" + strings.Repeat("x", 1000) + "'}}"}) {
		t.Error(got)
	}
}
