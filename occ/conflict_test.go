package occ

import (
	"testing"

	"parchment/api"
)

// The examples of the chapter and of the whole.
func TestExamples(t *testing.T) {
	w := newWorld(t, "CREATE TABLE t")
	x, y := w.begin(), w.begin()
	w.run(x, "INSERT INTO t VALUE {a: 1}")
	w.run(y, "INSERT INTO t VALUE {a: 2}")
	if e, f := w.commit(x), w.commit(y); e != api.OK || f != api.OK {
		t.Error(e, f)
	}
	x, y = w.begin(), w.begin()
	for _, n := range []uint64{x, y} {
		w.run(n, "SELECT * FROM t", "INSERT INTO t VALUE {a: 3}")
	}
	if e, f := w.commit(x), w.commit(y); e != api.OK || f != api.ErrConflict {
		t.Error(e, f)
	}
	if w.v.Rows("t").Len() != 3 {
		t.Error(w.v.Rows("t").Len())
	}
}

// What one looked at, what another one committed since, whether that is a conflict. There is an index of a.
func TestConflicts(t *testing.T) {
	for _, x := range []struct {
		mine, others string
		want         bool
	}{
		{"SELECT * FROM t", "INSERT INTO t VALUE {}", true},
		{"SELECT * FROM t", "UPDATE t SET b = b WHERE a = 1", true},
		{"SELECT * FROM t", "DELETE FROM t WHERE a = 1", true},
		{"SELECT * FROM t", "CREATE INDEX ON t (b)", true},
		{"SELECT * FROM t", "SELECT * FROM t", false},
		{"SELECT * FROM t", "INSERT INTO u VALUE {}", false},
		{"SELECT * FROM t", "CREATE TABLE v", false},
		{"SELECT * FROM t", "DELETE FROM t WHERE a = 9", false},
		{"SELECT * FROM t WHERE a = 1", "INSERT INTO t VALUE {a: 1}", true},
		{"SELECT * FROM t WHERE a = 1", "INSERT INTO t VALUE {a: 2}", false},
		{"SELECT * FROM t WHERE a = 1", "UPDATE t SET a = 4 WHERE a = 1", true},
		{"SELECT * FROM t WHERE a = 1", "UPDATE t SET a = 1 WHERE a = 2", true},
		{"SELECT * FROM t WHERE a = 1", "UPDATE t SET b = 4 WHERE a = 1", true},
		{"SELECT * FROM t WHERE a = 1", "UPDATE t SET a = 4 WHERE a = 2", false},
		{"SELECT * FROM t WHERE a = 1", "DELETE FROM t WHERE a = 1", true},
		{"SELECT * FROM t WHERE a = 1", "DELETE FROM t WHERE a = 2", false},
		{"SELECT * FROM t WHERE a = 1", "CREATE INDEX ON t (b)", true},
		{"SELECT * FROM t WHERE a >= 2", "INSERT INTO t VALUE {a: 2}", true},
		{"SELECT * FROM t WHERE a >= 2", "INSERT INTO t VALUE {a: 1}", false},
		{"SELECT * FROM t WHERE a = 9", "INSERT INTO t VALUE {a: 9}", true},
		{"SELECT * FROM t WHERE b = 1", "INSERT INTO t VALUE {a: 2, b: 2}", true},
		{"SELECT COUNT FROM t WHERE a = 1 LIMIT 0", "INSERT INTO t VALUE {a: 1}", true},
		{"SELECT * FROM HISTORY (t) WHERE doc = 99", "INSERT INTO t VALUE {a: 2}", true},
		{"SELECT * FROM HISTORY (t)", "INSERT INTO u VALUE {a: 2}", false},
		{"INSERT INTO t VALUE {a: 1}", "INSERT INTO t VALUE {a: 1}", false},
		{"INSERT INTO t VALUE {a: 1}", "DELETE FROM t", false},
		{"INSERT INTO t VALUE {a: 1}", "CREATE INDEX ON t (b)", true},
		{"UPDATE t SET b = 2 WHERE a = 1", "UPDATE t SET b = 3 WHERE a = 1", true},
		{"UPDATE t SET b = 2 WHERE a = 1", "UPDATE t SET b = 3 WHERE a = 2", false},
		{"DELETE FROM t WHERE a = 1", "DELETE FROM t WHERE a = 1", true},
		{"DELETE FROM t WHERE a = 1", "DELETE FROM t WHERE a = 2", false},
		{"CREATE INDEX ON t (b)", "CREATE INDEX ON t (c)", true},
		{"CREATE INDEX ON t (b)", "INSERT INTO t VALUE {b: 1}", false},
		{"CREATE TABLE v", "CREATE TABLE v", true},
		{"CREATE TABLE v", "CREATE TABLE x", false},
	} {
		w := newWorld(t, "CREATE TABLE t", "CREATE TABLE u", "CREATE INDEX ON t (a)", "INSERT INTO t VALUE {a: 1}", "INSERT INTO t VALUE {a: 2}")
		n := w.begin()
		w.run(n, x.mine)
		w.may(n, api.OK)
		w.did(x.others)
		want := api.OK
		if x.want {
			want = api.ErrConflict
		}
		if e := w.c.Check(n); e != want {
			t.Errorf("%s, and %s: error %d, want %d", x.mine, x.others, e, want)
		}
		w.may(n, want)
		if e := w.commit(n); e != want {
			t.Errorf("%s, and %s: commit: error %d, want %d", x.mine, x.others, e, want)
		}
		// A conflict leaves nothing, and the next one is free of it.
		n = w.begin()
		w.run(n, "SELECT * FROM t")
		w.may(n, api.OK)
	}
}

// What is looked at behind a commit is in conflict with it, if the transaction began ahead of it: other looks may not fit that.
func TestLooksBehindACommit(t *testing.T) {
	w := newWorld(t, "CREATE TABLE t")
	n := w.begin()
	w.did("INSERT INTO t VALUE {a: 1}")
	w.may(n, api.OK)
	if r := w.run(n, "SELECT * FROM t"); len(r.Rows) != 1 {
		t.Error("what is committed is seen:", r)
	}
	w.may(n, api.ErrConflict)
	later := w.begin()
	w.run(later, "SELECT * FROM t")
	w.may(later, api.OK)
	w.may(n, api.ErrConflict)
}

// Each block since the beginning counts, not the last one alone, and none ahead of it.
func TestBlocksSinceTheBeginning(t *testing.T) {
	w := newWorld(t, "CREATE TABLE t", "CREATE TABLE u")
	first := w.begin()
	w.did("INSERT INTO t VALUE {}")
	second := w.begin()
	w.did("INSERT INTO u VALUE {}")
	third := w.begin()
	w.counts(3, 2)
	for _, n := range []uint64{first, second, third} {
		w.run(n, "SELECT * FROM t")
	}
	w.may(first, api.ErrConflict)
	w.may(second, api.OK)
	w.may(third, api.OK)
	for _, n := range []uint64{first, second, third} {
		w.run(n, "SELECT * FROM u")
	}
	w.may(first, api.ErrConflict)
	w.may(second, api.ErrConflict)
	w.may(third, api.OK)
	w.counts(3, 2)
}

// What one looked at with its first statement counts as what it looked at with its last one.
func TestEachStatementCounts(t *testing.T) {
	w := newWorld(t, "CREATE TABLE t", "CREATE TABLE u", "CREATE TABLE v")
	for _, table := range []string{"t", "u", "v"} {
		n := w.begin()
		w.run(n, "SELECT * FROM t", "SELECT COUNT FROM u", "SELECT * FROM HISTORY (v)")
		w.did("INSERT INTO " + table + " VALUE {}")
		w.may(n, api.ErrConflict)
		w.c.End(n)
	}
}

// What was looked at counts if the statement had an error, too: somebody was told of that error.
func TestLooksOfErrors(t *testing.T) {
	w := newWorld(t, "CREATE TABLE t", "INSERT INTO t VALUE {a: 'x'}")
	n := w.begin()
	w.fails(n, "SELECT * FROM t WHERE a + 1 = 2", api.ErrType)
	w.did("UPDATE t SET a = 1")
	w.may(n, api.ErrConflict)
	w.c.End(n)

	n = w.begin()
	w.fails(n, "SELECT * FROM u", api.ErrTable)
	w.did("INSERT INTO t VALUE {}")
	w.may(n, api.OK)
	w.did("CREATE TABLE u")
	w.may(n, api.ErrConflict)
	w.c.End(n)

	n = w.begin()
	w.fails(n, "CREATE TABLE u", api.ErrTwice)
	w.did("INSERT INTO u VALUE {}")
	w.may(n, api.OK)
	w.did("CREATE INDEX ON u (a)")
	w.may(n, api.ErrConflict)
}

// A document that a block changes several times is touched as it was each time.
func TestTouchesWithinABlock(t *testing.T) {
	w := newWorld(t, "CREATE TABLE t", "CREATE INDEX ON t (a)", "INSERT INTO t VALUE {a: 1}")
	at := map[string]uint64{}
	for _, a := range []string{"1", "2", "3", "4", "5", "6"} {
		at[a] = w.begin()
		w.run(at[a], "SELECT * FROM t WHERE a = "+a)
	}
	w.did("UPDATE t SET a = 2", "UPDATE t SET a = 3", "INSERT INTO t VALUE {a: 4}", "UPDATE t SET a = 5 WHERE a = 4", "DELETE FROM t")
	for a, n := range at {
		want := api.ErrConflict
		if a == "6" {
			want = api.OK
		}
		if e := w.c.Check(n); e != want {
			t.Errorf("a = %s: error %d, want %d", a, e, want)
		}
	}
}

func TestErased(t *testing.T) {
	for text, want := range map[string]api.Errno{
		"SELECT * FROM t":                            api.ErrConflict,
		"SELECT * FROM HISTORY (t)":                  api.ErrConflict,
		"SELECT COUNT FROM HISTORY (t) WHERE op = 9": api.ErrConflict,
		"UPDATE t SET b = 1 WHERE b = 7":             api.ErrConflict,
		"SELECT * FROM t WHERE a = 1":                api.OK,
		"UPDATE t SET b = 1 WHERE a = 1":             api.OK,
		"INSERT INTO t VALUE {a: 1}":                 api.OK,
		"CREATE INDEX ON t (b)":                      api.OK,
		"SELECT * FROM u":                            api.OK,
		"SELECT * FROM HISTORY (u)":                  api.OK,
	} {
		w := newWorld(t, "CREATE TABLE t", "CREATE TABLE u", "CREATE INDEX ON t (a)", "INSERT INTO t VALUE {a: 1}")
		n := w.begin()
		w.run(n, text)
		w.c.Erased("tt")
		w.c.Erased("")
		w.may(n, api.OK)
		w.c.Erased("t")
		if e := w.c.Check(n); e != want {
			t.Errorf("%s: error %d, want %d", text, e, want)
		}
		w.may(n, want)
		// That is for good.
		w.c.Erased("u")
		w.run(n, "SELECT COUNT FROM t WHERE a = 1")
		if want == api.ErrConflict {
			w.may(n, want)
		}
		w.counts(1, 0)
	}
}

// All of a table is what it looked at, too, if it looked at parts ahead of that, or with an error.
func TestErasedOfLooksAmongOthers(t *testing.T) {
	w := newWorld(t, "CREATE TABLE t", "CREATE INDEX ON t (a)", "INSERT INTO t VALUE {a: 'x'}")
	x, y := w.begin(), w.begin()
	w.run(x, "SELECT * FROM t WHERE a = 1", "SELECT * FROM t", "SELECT * FROM t WHERE a = 2", "CREATE TABLE u")
	w.fails(y, "SELECT * FROM HISTORY (t) WHERE data.a + 1 = 2", api.ErrType)
	w.c.Erased("t")
	w.may(x, api.ErrConflict)
	w.may(y, api.ErrConflict)
}

// Who looks behind it is told of what is there then.
func TestLooksBehindErased(t *testing.T) {
	w := newWorld(t, "CREATE TABLE t", "INSERT INTO t VALUE {a: 1}")
	x, y := w.begin(), w.begin()
	w.run(x, "SELECT * FROM t")
	w.c.Erased("t")
	w.run(y, "SELECT * FROM t")
	z := w.begin()
	w.run(z, "SELECT * FROM HISTORY (t)")
	w.may(x, api.ErrConflict)
	w.may(y, api.OK)
	w.may(z, api.OK)
	// One that ended is in nobody's way.
	w.c.End(x)
	w.c.Erased("t")
	w.may(y, api.ErrConflict)
	w.may(z, api.ErrConflict)
	w.counts(2, 0)
}

// A transaction during whose span nobody commits is never in conflict.
func TestNobodyCommits(t *testing.T) {
	w := newWorld(t, "CREATE TABLE t", "INSERT INTO t VALUE {a: 1}")
	x, y, z := w.begin(), w.begin(), w.begin()
	for _, n := range []uint64{x, y, z} {
		w.run(n, "SELECT * FROM t", "UPDATE t SET a = 2", "INSERT INTO t VALUE {}", "CREATE TABLE u", "CREATE INDEX ON t (b)")
	}
	w.c.End(y)
	w.c.Block(z, "")
	w.c.End(z)
	if e := w.commit(x); e != api.OK {
		t.Error(e)
	}
}

func TestLog(t *testing.T) {
	w := newWorld(t, "CREATE TABLE t")
	w.counts(0, 0)
	one := func() { w.did("INSERT INTO t VALUE {}") }
	one()
	w.counts(0, 0)
	a := w.begin()
	one()
	one()
	b := w.begin()
	one()
	c, d := w.begin(), w.begin()
	one()
	w.counts(4, 4)
	w.c.End(b)
	w.counts(3, 4)
	w.c.End(a)
	w.counts(2, 1)
	w.c.End(d)
	w.counts(1, 1)
	one()
	w.counts(1, 2)
	if w.c.End(99) {
		t.Error("99 was open")
	}
	w.counts(1, 2)
	w.c.End(c)
	w.counts(0, 0)
}

// A block stays until someone ends, though nobody needs it.
func TestLogOfWhatNobodyNeeds(t *testing.T) {
	w := newWorld(t)
	for i, table := range []string{"t", "u"} {
		b := api.Block{Seq: uint64(i), Revs: []api.Rev{{Op: api.OpTable, Table: table}}}
		w.c.Done(b)
		w.v.Apply(b)
	}
	w.counts(0, 2)
	n := w.begin()
	w.run(n, "SELECT * FROM t")
	w.may(n, api.OK)
	if w.c.End(n + 1) {
		t.Error(n+1, "was open")
	}
	w.counts(1, 0)
}

// Those that are open may end in any order.
func TestEndInAnyOrder(t *testing.T) {
	for skip := range api.MaxOpen {
		for step := 1; step < api.MaxOpen; step += 2 {
			w := newWorld(t, "CREATE TABLE t")
			var began []uint64
			for range api.MaxOpen - 1 {
				began = append(began, w.begin())
				w.did("INSERT INTO t VALUE {}")
			}
			began = append(began, w.begin())
			open := map[int]bool{}
			for i := range began {
				open[i] = true
			}
			for i := range api.MaxOpen {
				at := (skip + i*step) % api.MaxOpen
				if !w.c.End(began[at]) {
					t.Fatal("not open:", at)
				}
				delete(open, at)
				want := 0
				for k := range open {
					want = max(want, api.MaxOpen-1-k)
				}
				w.counts(len(open), want)
			}
		}
	}
}
