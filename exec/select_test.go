package exec

import (
	"fmt"
	"slices"
	"strings"
	"testing"

	"parchment/api"
	"parchment/value"
)

func TestSelectWhere(t *testing.T) {
	w := tableOf(t, "{a: 1, b: 'x'}", "{a: 2}", "{}", "{a: 'z'}", "{a: 3, b: {c: 4}}")
	w.rows("SELECT * FROM t", "{a: 1, b: 'x'}", "{a: 2}", "{}", "{a: 'z'}", "{a: 3, b: {c: 4}}")
	w.rows("SELECT * FROM t WHERE a = 2", "{a: 2}")
	w.rows("SELECT * FROM t WHERE a > 1", "{a: 2}", "{a: 'z'}", "{a: 3, b: {c: 4}}")
	w.rows("SELECT * FROM t WHERE b.c = 4", "{a: 3, b: {c: 4}}")
	w.rows("SELECT * FROM t WHERE a IS NULL", "{}")
	w.rows("SELECT * FROM t WHERE NULL")
	w.rows("SELECT * FROM t WHERE c")
	w.rows("SELECT * FROM t WHERE FALSE")
	w.rows("SELECT * FROM t WHERE a < 3 AND a + 1 = 3", "{a: 2}")
}

// Of a path that leads to none there is nothing; names stand in order, with the points within them.
func TestSelectColumns(t *testing.T) {
	w := tableOf(t, "{a: 1, b: {c: 4, d: {e: [5]}}}", "{b: 3}")
	w.rows("SELECT a FROM t", "{a: 1}", "{a: NULL}")
	w.rows("SELECT b.d.e, a, b.c, b, z FROM t",
		"{a: 1, b: {c: 4, d: {e: [5]}}, b.c: 4, b.d.e: [5], z: NULL}", "{a: NULL, b: 3, b.c: NULL, b.d.e: NULL, z: NULL}")
	w.rows("SELECT b.c FROM t ORDER BY a DESC LIMIT 1", "{b.c: 4}")
	w.rows("SELECT a FROM t WHERE b = 3", "{a: NULL}")
}

func TestSelectCount(t *testing.T) {
	w := tableOf(t, "{a: 1}", "{a: 2}", "{a: 3}")
	w.rows("SELECT COUNT FROM t", "3")
	w.rows("SELECT COUNT FROM t WHERE a > 1", "2")
	w.rows("SELECT COUNT FROM t WHERE a > 9", "0")
	w.rows("SELECT COUNT FROM t LIMIT 2", "2")
	w.rows("SELECT COUNT FROM t ORDER BY a LIMIT 0", "0")
	w.rows("SELECT COUNT FROM t WHERE a > 1 ORDER BY a DESC LIMIT 5", "2")
	w.must("CREATE TABLE u")
	w.rows("SELECT COUNT FROM u", "0")
	w.rows("SELECT * FROM u")
}

func TestSelectOrder(t *testing.T) {
	w := tableOf(t, "{a: 2, n: 1}", "{a: 1, n: 2}", "{a: 2, n: 3}", "{n: 4}", "{a: 1, n: 5}")
	w.rows("SELECT n FROM t", "{n: 1}", "{n: 2}", "{n: 3}", "{n: 4}", "{n: 5}")
	w.rows("SELECT n FROM t ORDER BY a", "{n: 4}", "{n: 2}", "{n: 5}", "{n: 1}", "{n: 3}")
	// Those that are the same are not turned round.
	w.rows("SELECT n FROM t ORDER BY a DESC", "{n: 1}", "{n: 3}", "{n: 2}", "{n: 5}", "{n: 4}")
	w.rows("SELECT n FROM t ORDER BY z", "{n: 1}", "{n: 2}", "{n: 3}", "{n: 4}", "{n: 5}")
	w.rows("SELECT n FROM t ORDER BY z DESC", "{n: 1}", "{n: 2}", "{n: 3}", "{n: 4}", "{n: 5}")
	w.rows("SELECT a FROM t ORDER BY n DESC", "{a: 1}", "{a: NULL}", "{a: 2}", "{a: 1}", "{a: 2}")
}

// The order is that of values of all kinds, and a path may go on into parts.
func TestSelectOrderOfKinds(t *testing.T) {
	parts := []string{"NULL", "FALSE", "TRUE", "-9223372036854775807", "-1", "0", "3", "''", "'a'", "'ab'", "x''", "x'00'", "[]", "[1]", "[1, NULL]", "{}", "{a: 1}"}
	var docs, up []string
	for i := range parts {
		p := parts[(i*7+3)%len(parts)]
		docs = append(docs, "{s: {p: "+p+"}}")
		up = append(up, "{s.p: "+parts[i]+"}")
	}
	w := tableOf(t, docs...)
	w.rows("SELECT s.p FROM t ORDER BY s.p", up...)
	slices.Reverse(up)
	w.rows("SELECT s.p FROM t ORDER BY s.p DESC", up...)
}

func TestSelectLimit(t *testing.T) {
	w := tableOf(t, "{a: 3}", "{a: 1}", "{a: 4}", "{a: 1, b: 2}", "{a: 5}", "{a: 9}")
	w.rows("SELECT * FROM t LIMIT 0")
	w.rows("SELECT * FROM t LIMIT 2", "{a: 3}", "{a: 1}")
	w.rows("SELECT a FROM t LIMIT 6", "{a: 3}", "{a: 1}", "{a: 4}", "{a: 1}", "{a: 5}", "{a: 9}")
	w.rows("SELECT a FROM t LIMIT 9223372036854775807", "{a: 3}", "{a: 1}", "{a: 4}", "{a: 1}", "{a: 5}", "{a: 9}")
	w.rows("SELECT * FROM t ORDER BY a LIMIT 1", "{a: 1}")
	w.rows("SELECT * FROM t ORDER BY a LIMIT 3", "{a: 1}", "{a: 1, b: 2}", "{a: 3}")
	w.rows("SELECT * FROM t ORDER BY a DESC LIMIT 2", "{a: 9}", "{a: 5}")
	w.rows("SELECT * FROM t WHERE a < 5 ORDER BY a DESC LIMIT 2", "{a: 4}", "{a: 3}")
	w.rows("SELECT * FROM t ORDER BY a LIMIT 0")
}

// ORDER BY a LIMIT 2 of ten documents.
func TestExampleOfTheChapter(t *testing.T) {
	var docs []string
	for _, a := range []int{7, 3, 9, 1, 5, 8, 2, 6, 10, 4} {
		docs = append(docs, fmt.Sprintf("{a: %d}", a))
	}
	tableOf(t, docs...).rows("SELECT * FROM t ORDER BY a LIMIT 2", "{a: 1}", "{a: 2}")
}

// The order in which documents are found is that of their numbers, also if an index finds them in another one.
func TestSelectByAnIndex(t *testing.T) {
	w := tableOf(t, "{a: 3, n: 1}", "{a: 2, n: 2}", "{a: 1, n: 3}", "{a: 2, n: 4}", "{a: 'x', n: 5}")
	ask := func() {
		w.rows("SELECT n FROM t WHERE a > 1", "{n: 1}", "{n: 2}", "{n: 4}", "{n: 5}", "{n: 6}")
		w.rows("SELECT n FROM t WHERE 3 > a AND a >= 2", "{n: 2}", "{n: 4}", "{n: 6}")
		w.rows("SELECT n FROM t WHERE a > 1 LIMIT 2", "{n: 1}", "{n: 2}")
		w.rows("SELECT n FROM t WHERE a > 1 ORDER BY z DESC LIMIT 3", "{n: 1}", "{n: 2}", "{n: 4}")
		w.rows("SELECT n FROM t WHERE a <= 2 ORDER BY a", "{n: 3}", "{n: 2}", "{n: 4}", "{n: 6}")
		w.rows("SELECT n FROM t WHERE a = 2 AND n <> 4", "{n: 2}", "{n: 6}")
		w.rows("SELECT n FROM t WHERE a > 2 AND a < 2")
		w.rows("SELECT COUNT FROM t WHERE a = 2", "3")
	}
	w.must("INSERT INTO t VALUE {a: 2, n: 6}")
	ask()
	w.must("CREATE INDEX ON t (a)")
	ask()
	w.commit()
	ask()
	w.must("UPDATE t SET n = n", "DELETE FROM t WHERE a = 'y'")
	ask()
}

// An error of a document that is not looked at does not count.
func TestErrorsOfWhatIsNotLookedAt(t *testing.T) {
	w := tableOf(t, "{a: 1, b: 'x'}", "{a: 2, b: 5}", "{a: 3, b: 6}")
	s := "SELECT a FROM t WHERE b + 1 > 0 AND a > 1"
	w.fails(s, api.ErrType)
	w.must("CREATE INDEX ON t (a)")
	w.rows(s, "{a: 2}", "{a: 3}")
	w.fails("SELECT a FROM t WHERE b + 1 > 0 AND a > 0", api.ErrType)
}

func TestFirstRows(t *testing.T) {
	var l []api.Row
	for i := range 60 {
		v := value.Struct([]string{"a", "b"}, []api.Value{value.Int(int64(i * 37 % 7)), value.Int(int64(i))})
		l = append(l, api.Row{Doc: uint64(i), V: v})
	}
	for _, desc := range []bool{false, true} {
		for _, path := range []string{"", "a", "b", "z", "a.b"} {
			sorted := slices.Clone(l)
			slices.SortStableFunc(sorted, func(x, y api.Row) int {
				c := value.Compare(value.Get(x.V, path), value.Get(y.V, path))
				if desc {
					return -c
				}
				return c
			})
			for limit := -1; limit <= len(l)+1; limit++ {
				want := sorted
				if limit >= 0 {
					want = sorted[:min(limit, len(l))]
				}
				got := first(api.Stmt{Order: path, Desc: desc, Limit: limit}, l)
				if !slices.EqualFunc(got, want, func(x, y api.Row) bool { return x.Doc == y.Doc }) {
					t.Fatalf("by %q, %v, limit %d: %v, want %v", path, desc, limit, got, want)
				}
			}
		}
	}
}

// More documents than a heap of few rows has.
func TestSelectOfMany(t *testing.T) {
	w := tableOf(t)
	for range 30 {
		for range api.MaxRevs {
			n := int64(w.v.Next()) + int64(len(w.b.Revs()))
			w.must(fmt.Sprintf("INSERT INTO t VALUE {a: %d, s: '%s'}", n*7919%1920, strings.Repeat("x", int(n%5))))
		}
		w.commit()
	}
	w.rows("SELECT COUNT FROM t", "1920")
	w.rows("SELECT a FROM t ORDER BY a LIMIT 3", "{a: 0}", "{a: 1}", "{a: 2}")
	w.rows("SELECT a FROM t ORDER BY a DESC LIMIT 2", "{a: 1919}", "{a: 1918}")
	w.rows("SELECT a FROM t WHERE s = 'xx' AND a < 8 ORDER BY a", shown(w.must("SELECT a FROM t WHERE a < 8 AND s = 'xx' ORDER BY a").Rows)...)
	w.must("CREATE INDEX ON t (a)")
	w.rows("SELECT a FROM t WHERE a >= 1917 ORDER BY a", "{a: 1917}", "{a: 1918}", "{a: 1919}")
}
