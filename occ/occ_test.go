package occ

import (
	"fmt"
	"math"
	"slices"
	"testing"

	"parchment/api"
	"parchment/block"
	"parchment/exec"
	"parchment/value"
	"parchment/views"
)

// numbersOfNone are numbers that no transaction has, when some few had theirs.
var numbersOfNone = []uint64{0, 99, api.OwnDoc, math.MaxUint64}

func TestNewOfNothing(t *testing.T) {
	if c, e := New(nil); c != nil || e != api.ErrArg {
		t.Error(c, e)
	}
}

func TestNumbers(t *testing.T) {
	w := newWorld(t)
	for want := range uint64(5) {
		if n := w.begin(); n != want+1 {
			t.Errorf("number %d, want %d", n, want+1)
		}
	}
	w.c.End(5)
	w.c.End(2)
	if n := w.begin(); n != 6 {
		t.Error("a number that was there:", n)
	}
	for n := range uint64(6) {
		w.c.End(n + 1)
	}
	w.counts(0, 0)
	if n := w.begin(); n != 7 {
		t.Error("a number that was there:", n)
	}
	// The next one goes by the last one, not by the blocks.
	w.did("CREATE TABLE t")
	w.did("CREATE TABLE u")
	if n := w.begin(); n != 10 || w.v.Seq() != 2 {
		t.Error(n, w.v.Seq())
	}
}

func TestFirstNumber(t *testing.T) {
	v := views.New()
	for i := range uint64(4) {
		b := api.Block{Seq: i, Tx: 70 + i, Revs: []api.Rev{{Op: api.OpTable, Table: fmt.Sprint("t", i)}}}
		if e := v.Apply(b); e != api.OK {
			t.Fatal(e)
		}
	}
	c, _ := New(v)
	n, e := c.Begin()
	k, f := c.Begin()
	if n != 5 || k != 6 || e != api.OK || f != api.OK {
		t.Error(n, k, e, f)
	}
}

// How many blocks there are counts when the first one begins.
func TestFirstNumberOfWhatCameSince(t *testing.T) {
	v := views.New()
	c, _ := New(v)
	v.Apply(api.Block{Revs: []api.Rev{{Op: api.OpTable, Table: "t"}}})
	if n, e := c.Begin(); n != 2 || e != api.OK {
		t.Error(n, e)
	}
}

func TestMostOpen(t *testing.T) {
	w := newWorld(t)
	for range api.MaxOpen {
		w.begin()
	}
	for range 3 {
		if n, e := w.c.Begin(); n != 0 || e != api.ErrLimit {
			t.Error(n, e)
		}
	}
	w.counts(8, 0)
	w.c.End(3)
	// One that may not begin has no number.
	if n := w.begin(); n != 9 {
		t.Error(n)
	}
	if n, e := w.c.Begin(); n != 0 || e != api.ErrLimit {
		t.Error(n, e)
	}
}

func TestIsAndOpen(t *testing.T) {
	w := newWorld(t)
	x, y := w.begin(), w.begin()
	if !w.c.Is(x) || !w.c.Is(y) {
		t.Error("not open:", x, y)
	}
	for _, n := range numbersOfNone {
		if w.c.Is(n) {
			t.Error("open:", n)
		}
	}
	w.counts(2, 0)
	if !w.c.End(x) || w.c.End(x) || w.c.Is(x) || !w.c.Is(y) {
		t.Error("ended:", w.c.Is(x), w.c.Is(y))
	}
	w.counts(1, 0)
}

// nothing holds what a control tells of a transaction that it has not.
func nothing(t *testing.T, c *Control, n uint64) {
	t.Helper()
	s := parsed(t, "CREATE TABLE t")
	if r, e := c.Run(n, s); e != api.ErrTx || len(r.Rows) != 0 || r.Changed != 0 || len(r.Reads) != 0 {
		t.Error(n, r, e)
	}
	b, e := c.Block(n, "prev")
	if e != api.ErrTx || b.Seq != 0 || b.Prev != "" || b.Tx != 0 || len(b.Revs) != 0 {
		t.Error(n, b, e)
	}
	if e := c.Check(n); e != api.ErrTx {
		t.Error(n, e)
	}
	if c.Is(n) || c.Writes(n) || c.End(n) {
		t.Error("it is there:", n)
	}
}

func TestTransactionsThatAreNotOpen(t *testing.T) {
	w := newWorld(t, "CREATE TABLE t")
	n := w.begin()
	w.run(n, "INSERT INTO t VALUE {}")
	for _, k := range append(slices.Clone(numbersOfNone), n-1, n+1) {
		nothing(t, w.c, k)
	}
	w.counts(1, 0)
	w.c.End(n)
	nothing(t, w.c, n)
}

func TestNilControl(t *testing.T) {
	var c *Control
	if n, e := c.Begin(); n != 0 || e != api.ErrArg {
		t.Error(n, e)
	}
	c.Done(api.Block{Revs: []api.Rev{{Op: api.OpTable, Table: "t"}}})
	c.Erased("t")
	for _, n := range append(slices.Clone(numbersOfNone), 1) {
		nothing(t, c, n)
	}
	if c.Open() != 0 || c.Log() != 0 {
		t.Error(c.Open(), c.Log())
	}
}

// One that nobody made by New ends each call, too.
func TestEmptyControl(t *testing.T) {
	var c Control
	for _, n := range append(slices.Clone(numbersOfNone), 1) {
		nothing(t, &c, n)
	}
	n, _ := c.Begin()
	c.Run(n, parsed(t, "CREATE TABLE t"))
	c.Run(n, parsed(t, "SELECT * FROM t"))
	c.Done(api.Block{Revs: []api.Rev{{Op: api.OpUpdate, Table: "t", Doc: 1}, {}}})
	c.Erased("t")
	c.Check(n)
	c.Block(n, "")
	c.Writes(n)
	c.End(n)
	if c.Open() != 0 || c.Log() != 0 {
		t.Error(c.Open(), c.Log())
	}
}

// What a transaction did it sees itself, and nobody else.
func TestRun(t *testing.T) {
	w := newWorld(t, "CREATE TABLE t", "INSERT INTO t VALUE {a: 1}")
	x, y := w.begin(), w.begin()
	if r := w.run(x, "INSERT INTO t VALUE {a: 2}"); r.Changed != 1 || len(r.Rows) != 0 {
		t.Error(r)
	}
	if r := w.run(x, "SELECT * FROM t"); len(r.Rows) != 2 || value.Get(r.Rows[1], "a").N != 2 {
		t.Error(r)
	}
	if r := w.run(y, "SELECT * FROM t"); len(r.Rows) != 1 || value.Get(r.Rows[0], "a").N != 1 {
		t.Error(r)
	}
	if r := w.run(y, "UPDATE t SET a = 5", "SELECT a FROM t"); len(r.Rows) != 1 || value.Get(r.Rows[0], "a").N != 5 {
		t.Error(r)
	}
	if r := w.run(x, "SELECT COUNT FROM t WHERE a = 5"); r.Rows[0].N != 0 {
		t.Error(r)
	}
	if w.v.Rows("t").Len() != 1 {
		t.Error("committed:", w.v.Rows("t").Len())
	}
}

// The answer is exec's, its looks included.
func TestRunTellsWhatExecTells(t *testing.T) {
	w := newWorld(t, "CREATE TABLE t", "CREATE INDEX ON t (a)", "INSERT INTO t VALUE {a: 1, b: 'x'}")
	n := w.begin()
	b := w.c.at(n).Clone()
	for _, text := range []string{
		"SELECT * FROM t WHERE a = 1", "SELECT COUNT FROM HISTORY (t)", "INSERT INTO t VALUE {a: 3}", "UPDATE t SET a = a + 1 WHERE a > 1",
		"SELECT a FROM t WHERE b + 1 = 2", "SELECT * FROM u", "CREATE TABLE t", "CREATE TABLE u", "DELETE FROM t",
	} {
		s := parsed(t, text)
		want, did, f := exec.Run(w.v, b, s)
		b = did
		if got, e := w.c.Run(n, s); e != f || fmt.Sprint(got) != fmt.Sprint(want) {
			t.Errorf("%s: %v, error %d; want %v, error %d", text, got, e, want, f)
		}
		sameRevs(t, w.c.at(n).Revs(), b.Revs())
	}
}

// An error leaves the transaction as it was.
func TestRunErrors(t *testing.T) {
	w := newWorld(t, "CREATE TABLE t", "INSERT INTO t VALUE {a: 1}", "INSERT INTO t VALUE {a: 'x'}")
	n := w.begin()
	w.fails(n, "UPDATE t SET a = a + 1", api.ErrType)
	w.fails(n, "SELECT * FROM u", api.ErrTable)
	w.fails(n, "CREATE TABLE t", api.ErrTwice)
	w.fails(n, "INSERT INTO t VALUE {a: 9223372036854775807 + 1}", api.ErrOver)
	if w.c.Writes(n) {
		t.Error("it did something")
	}
	w.run(n, "INSERT INTO t VALUE {a: 2}")
	w.fails(n, "UPDATE t SET a = a + 1", api.ErrType)
	if b, e := w.c.Block(n, ""); e != api.OK || len(b.Revs) != 1 {
		t.Error(b, e)
	}
	for range api.MaxRevs - 1 {
		w.run(n, "INSERT INTO t VALUE {}")
	}
	w.fails(n, "INSERT INTO t VALUE {}", api.ErrLimit)
	if b, e := w.c.Block(n, ""); e != api.OK || len(b.Revs) != api.MaxRevs {
		t.Error(len(b.Revs), e)
	}
}

func TestRunOfWhatNobodyParsed(t *testing.T) {
	w := newWorld(t, "CREATE TABLE t")
	n := w.begin()
	r, e := w.c.Run(n, api.Stmt{})
	if e != api.ErrTable || r.Changed != 0 || len(r.Rows) != 0 {
		t.Error(r, e)
	}
	if r, e := w.c.Run(n, api.Stmt{Kind: api.StmtTable, Table: "no name"}); e != api.ErrArg || len(r.Reads) != 0 {
		t.Error(r, e)
	}
	if w.c.Writes(n) {
		t.Error("it did something")
	}
}

func TestWrites(t *testing.T) {
	w := newWorld(t, "CREATE TABLE t", "INSERT INTO t VALUE {a: 1}")
	for text, want := range map[string]bool{
		"SELECT * FROM t":                false,
		"SELECT * FROM HISTORY (t)":      false,
		"UPDATE t SET a = 2 WHERE a = 9": false,
		"DELETE FROM t WHERE a = 9":      false,
		"UPDATE t SET a = a":             true,
		"DELETE FROM t":                  true,
		"INSERT INTO t VALUE {}":         true,
		"CREATE TABLE u":                 true,
		"CREATE INDEX ON t (a)":          true,
	} {
		n, other := w.begin(), w.begin()
		if w.c.Writes(n) {
			t.Error("at first:", text)
		}
		w.run(n, text)
		if w.c.Writes(n) != want || w.c.Writes(other) {
			t.Error(text, w.c.Writes(n), w.c.Writes(other))
		}
		w.c.End(n)
		w.c.End(other)
	}
	// What it made and took away again is something that it did.
	n := w.begin()
	w.run(n, "INSERT INTO t VALUE {a: 7}", "DELETE FROM t WHERE a = 7")
	if !w.c.Writes(n) {
		t.Error("it did nothing")
	}
}

func TestBlock(t *testing.T) {
	w := newWorld(t, "CREATE TABLE t", "INSERT INTO t VALUE {a: 1}")
	n := w.begin()
	w.run(n, "INSERT INTO t VALUE {a: 2}", "UPDATE t SET a = 3 WHERE a <= 2", "DELETE FROM t WHERE a = 3", "CREATE INDEX ON t (a)", "INSERT INTO t VALUE {}")
	body := func(a int64) string {
		s, e := value.Encode(value.Struct([]string{"a"}, []api.Value{value.Int(a)}))
		if e != api.OK {
			t.Fatal(e)
		}
		return s
	}
	none, _ := value.Encode(value.Struct(nil, nil))
	want := []api.Rev{
		block.Sealed(api.Rev{Op: api.OpInsert, Table: "t", Doc: 2, Body: body(2)}),
		block.Sealed(api.Rev{Op: api.OpUpdate, Table: "t", Doc: 1, Version: 1, Body: body(3)}),
		block.Sealed(api.Rev{Op: api.OpUpdate, Table: "t", Doc: 2, Version: 1, Body: body(3)}),
		block.Sealed(api.Rev{Op: api.OpDelete, Table: "t", Doc: 1, Version: 2}),
		block.Sealed(api.Rev{Op: api.OpDelete, Table: "t", Doc: 2, Version: 2}),
		block.Sealed(api.Rev{Op: api.OpIndex, Table: "t", Field: "a"}),
		block.Sealed(api.Rev{Op: api.OpInsert, Table: "t", Doc: 3, Body: none}),
	}
	for _, prev := range []string{"", "prev", "another"} {
		b, e := w.c.Block(n, prev)
		if e != api.OK || b.Seq != 2 || b.Prev != prev || b.Tx != n {
			t.Error(b, e)
		}
		sameRevs(t, b.Revs, want)
	}
	w.counts(1, 0)
	// Statements go on behind it.
	w.run(n, "INSERT INTO t VALUE {a: 2}")
	if b, e := w.c.Block(n, ""); e != api.OK || len(b.Revs) != 8 || b.Revs[7].Doc != 4 {
		t.Error(b, e)
	}
}

func TestBlockOfNothing(t *testing.T) {
	w := newWorld(t, "CREATE TABLE t")
	n := w.begin()
	w.run(n, "SELECT * FROM t")
	if b, e := w.c.Block(n, "p"); e != api.OK || b.Seq != 1 || b.Prev != "p" || b.Tx != n || len(b.Revs) != 0 {
		t.Error(b, e)
	}
}

// Documents have the next numbers when they are committed, whenever they were made.
func TestBlockBehindOthers(t *testing.T) {
	w := newWorld(t, "CREATE TABLE t")
	x, y := w.begin(), w.begin()
	w.run(x, "INSERT INTO t VALUE {a: 1}", "INSERT INTO t VALUE {a: 2}")
	w.run(y, "INSERT INTO t VALUE {a: 3}")
	if b, _ := w.c.Block(y, ""); b.Seq != 1 || b.Revs[0].Doc != 1 {
		t.Error(b)
	}
	if e := w.commit(x); e != api.OK {
		t.Fatal(e)
	}
	if b, _ := w.c.Block(y, ""); b.Seq != 2 || b.Tx != y || b.Revs[0].Doc != 3 {
		t.Error(b)
	}
	if e := w.commit(y); e != api.OK || w.v.Rows("t").Len() != 3 {
		t.Error(e)
	}
}

func TestWhatIsHandedOutAndIn(t *testing.T) {
	w := newWorld(t, "CREATE TABLE t", "INSERT INTO t VALUE {a: 1, l: [1]}")
	x, y := w.begin(), w.begin()
	s := parsed(t, "INSERT INTO t VALUE {a: 2, l: [2]}")
	w.c.Run(x, s)
	s.Value.Names[0], s.Value.Kids[0] = "z", api.Expr{}
	r := w.run(x, "SELECT * FROM t")
	for _, v := range r.Rows {
		v.Names[0], v.Parts[0] = "spoilt", value.None()
	}
	for i := range r.Reads {
		r.Reads[i] = api.Read{Table: "spoilt"}
	}
	b, _ := w.c.Block(x, "")
	b.Revs[0] = api.Rev{Op: api.OpTable, Table: "spoilt"}
	if r := w.run(x, "SELECT COUNT FROM t WHERE a > 0"); r.Rows[0].N != 2 {
		t.Error("documents are others:", r)
	}
	w.run(y, "UPDATE t SET a = 7 WHERE a = 1")
	b, _ = w.c.Block(y, "")
	w.c.Done(b)
	w.v.Apply(b)
	for i := range b.Revs {
		b.Revs[i] = api.Rev{}
	}
	w.c.End(y)
	w.may(x, api.ErrConflict)
}
