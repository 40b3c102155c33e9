package exec

import (
	"slices"
	"strings"
	"testing"

	"parchment/api"
	"parchment/buffer"
	"parchment/keys"
	"parchment/ranges"
	"parchment/value"
)

// shape is the look at a table's shape, as the chapter tells it.
func shape(table string) api.Read {
	return api.Read{Table: table, Field: "_", Span: api.Span{Low: "\xff", High: "\xff"}}
}

func whole(table string) api.Read { return api.Read{Table: table} }

func part(table, field, low, high string) api.Read {
	return api.Read{Table: table, Field: field, Span: api.Span{Low: low, High: high}}
}

func key(n int64) string { return keys.Of(value.Int(n)) }

// looks holds what a statement looked at, and its error, against these.
func (w *world) looks(text string, e api.Errno, want ...api.Read) {
	w.t.Helper()
	r, _, got := Run(w.v, w.b, parsed(w.t, text))
	if got != e || !slices.Equal(r.Reads, want) {
		w.t.Errorf("%s: error %d, looks %q; want error %d, %q", text, got, r.Reads, e, want)
	}
}

func TestLooksOfEachStatement(t *testing.T) {
	w := tableOf(t, "{a: 1}", "{a: 2}")
	w.looks("CREATE TABLE u", api.OK, shape("u"))
	w.looks("CREATE INDEX ON t (b)", api.OK, shape("t"))
	w.looks("INSERT INTO t VALUE {a: 1}", api.OK, shape("t"))
	for _, text := range []string{
		"SELECT * FROM t", "SELECT a FROM t WHERE a = 1", "SELECT COUNT FROM t LIMIT 0", "SELECT * FROM t WHERE FALSE", "SELECT a FROM t ORDER BY a LIMIT 1",
		"UPDATE t SET a = 3", "UPDATE t SET a = 3 WHERE a = 9", "DELETE FROM t", "DELETE FROM t WHERE a = 1",
		"SELECT * FROM HISTORY (t)", "SELECT doc FROM HISTORY (t) WHERE doc = 1 LIMIT 1",
	} {
		w.looks(text, api.OK, shape("t"), whole("t"))
	}
}

func TestLooksAtSpans(t *testing.T) {
	w := tableOf(t, "{a: 1}", "{a: 2}")
	w.must("CREATE INDEX ON t (a)")
	ask := func() {
		for _, begin := range []string{"SELECT * FROM t", "SELECT COUNT FROM t", "UPDATE t SET a = 3", "DELETE FROM t"} {
			w.looks(begin, api.OK, shape("t"), whole("t"))
			w.looks(begin+" WHERE a = 1", api.OK, shape("t"), part("t", "a", key(1), keys.Next(key(1))))
			w.looks(begin+" WHERE 1 < a AND b = 3 AND a <= 9", api.OK, shape("t"), part("t", "a", keys.Next(key(1)), keys.Next(key(9))))
			w.looks(begin+" WHERE a < 3 AND a > 5", api.OK, shape("t"), part("t", "a", keys.Next(key(5)), key(3)))
			w.looks(begin+" WHERE a > 3", api.OK, shape("t"), part("t", "a", keys.Next(key(3)), ""))
			w.looks(begin+" WHERE a = 1 OR a = 2", api.OK, shape("t"), whole("t"))
			w.looks(begin+" WHERE a <> 1", api.OK, shape("t"), whole("t"))
			w.looks(begin+" WHERE b = 1", api.OK, shape("t"), whole("t"))
			w.looks(begin+" WHERE a.x = 1", api.OK, shape("t"), whole("t"))
		}
		w.looks("SELECT * FROM HISTORY (t) WHERE a = 1", api.OK, shape("t"), whole("t"))
		w.looks("INSERT INTO t VALUE {a: 1}", api.OK, shape("t"))
	}
	ask()
	w.commit()
	ask()
}

// An index that the transaction does not see yet says no span; one of another table never does.
func TestLooksByIndexesThatAreSeen(t *testing.T) {
	w := tableOf(t, "{a: 1}")
	w.must("CREATE TABLE u", "CREATE INDEX ON u (a)")
	w.looks("SELECT * FROM t WHERE a = 1", api.OK, shape("t"), whole("t"))
	w.looks("SELECT * FROM u WHERE a = 1", api.OK, shape("u"), part("u", "a", key(1), keys.Next(key(1))))
	other := &world{t: t, v: w.v, b: buffer.New(w.v)}
	other.must("CREATE INDEX ON t (a)")
	w.looks("SELECT * FROM t WHERE a = 1", api.OK, shape("t"), whole("t"))
	other.commit()
	w.looks("SELECT * FROM t WHERE a = 1", api.OK, shape("t"), part("t", "a", key(1), keys.Next(key(1))))
}

// An index of the field by which shapes are told is asked as any other.
func TestLooksAtTheFieldOfShapes(t *testing.T) {
	w := tableOf(t, "{_: 1}", "{_: 2}")
	w.must("CREATE INDEX ON t (_)")
	w.looks("SELECT * FROM t WHERE _ = 2", api.OK, shape("t"), part("t", "_", key(2), keys.Next(key(2))))
	w.rows("SELECT * FROM t WHERE _ = 2", "{_: 2}")
}

// With an error there is told what was looked at till then.
func TestLooksWithErrors(t *testing.T) {
	w := tableOf(t, "{a: 1, b: 'x'}", "{a: 2, b: 3}")
	w.must("CREATE INDEX ON t (a)")
	one := part("t", "a", key(1), keys.Next(key(1)))
	w.looks("CREATE TABLE t", api.ErrTwice, shape("t"))
	w.looks("CREATE INDEX ON t (a)", api.ErrTwice, shape("t"))
	w.looks("CREATE INDEX ON u (a)", api.ErrTable, shape("u"))
	w.looks("SELECT * FROM u", api.ErrTable, shape("u"))
	w.looks("SELECT * FROM HISTORY (u)", api.ErrTable, shape("u"))
	w.looks("INSERT INTO u VALUE {}", api.ErrTable, shape("u"))
	w.looks("SELECT * FROM t WHERE 'x' + 1 = 2", api.ErrType, shape("t"))
	w.looks("UPDATE t SET a = 1, a = 2", api.ErrTwice, shape("t"))
	w.looks("INSERT INTO t VALUE {a: 9223372036854775807 + 1}", api.ErrOver, shape("t"))
	w.looks("INSERT INTO t VALUE {a: '"+strings.Repeat("x", api.MaxValue)+"'}", api.ErrLimit, shape("t"))
	w.looks("SELECT * FROM t WHERE b + 1 = 2", api.ErrType, shape("t"), whole("t"))
	w.looks("SELECT * FROM t WHERE b + 1 = 2 AND a = 1", api.ErrType, shape("t"), one)
	w.looks("SELECT * FROM HISTORY (t) WHERE data", api.ErrType, shape("t"), whole("t"))
	w.looks("UPDATE t SET a = b + 1", api.ErrType, shape("t"), whole("t"))
	w.looks("UPDATE t SET a = b + 1 WHERE a = 1", api.ErrType, shape("t"), one)
	w.looks("DELETE FROM t WHERE b + 1 = 2", api.ErrType, shape("t"), whole("t"))
	for len(w.b.Revs()) < api.MaxRevs {
		w.must("INSERT INTO t VALUE {a: 5}")
	}
	w.looks("CREATE TABLE u", api.ErrLimit, shape("u"))
	w.looks("INSERT INTO t VALUE {}", api.ErrLimit, shape("t"))
	w.looks("DELETE FROM t WHERE a = 1", api.ErrLimit, shape("t"), one)
}

// The look at a shape sees no document: only what changes the shape hits it.
func TestShapeSeesNoDocument(t *testing.T) {
	w := tableOf(t)
	r := w.must("INSERT INTO t VALUE {}")
	var looks ranges.Set
	for _, l := range r.Reads {
		looks.Add(l)
	}
	for _, x := range []string{"{}", "{_: NULL}", "{_: 1}", "{_: {_: 1}}", "{_: 'x'}", "{_: x'ff'}", "{_: [[]]}"} {
		other := &world{t: t, v: w.v, b: buffer.New(w.v)}
		other.must("INSERT INTO t VALUE "+x, "UPDATE t SET a = 1", "DELETE FROM t")
		if looks.Hit(buffer.Touches(w.v, other.b.Revs())) {
			t.Error(x, "hits the look at the shape")
		}
	}
	for _, text := range []string{"CREATE INDEX ON t (a)", "CREATE INDEX ON t (_)"} {
		other := &world{t: t, v: w.v, b: buffer.New(w.v)}
		other.must(text)
		if !looks.Hit(buffer.Touches(w.v, other.b.Revs())) {
			t.Error(text, "does not hit the look at the shape")
		}
	}
}
