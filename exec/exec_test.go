package exec

import (
	"fmt"
	"slices"
	"strings"
	"testing"

	"parchment/api"
	"parchment/buffer"
	"parchment/value"
	"parchment/views"
)

func TestNumbersOfTheChapter(t *testing.T) {
	if shapeField != "_" || aboveKeys != "\xff" {
		t.Error(shapeField, aboveKeys)
	}
}

func TestTablesAndIndexes(t *testing.T) {
	w := newWorld(t)
	w.changes("CREATE TABLE t", 0)
	w.changes("CREATE TABLE u", 0)
	w.changes("CREATE INDEX ON t (b)", 0)
	w.changes("CREATE INDEX ON t (a)", 0)
	want := []api.Rev{
		{Op: api.OpTable, Table: "t"}, {Op: api.OpTable, Table: "u"},
		{Op: api.OpIndex, Table: "t", Field: "b"}, {Op: api.OpIndex, Table: "t", Field: "a"},
	}
	if got := w.b.Revs(); !slices.Equal(got, want) {
		t.Errorf("%v, want %v", got, want)
	}
	if c := w.b.Catalog(); len(c) != 2 || !slices.Equal(c["t"], []string{"a", "b"}) || len(c["u"]) != 0 {
		t.Error(c)
	}
	if len(w.v.Tables()) != 0 {
		t.Error("what is committed has tables:", w.v.Tables())
	}
}

func TestInsert(t *testing.T) {
	w := tableOf(t)
	w.changes("INSERT INTO t VALUE {b: 2 * 3, a: -1, l: [1, 'x', {}], n: NULL, y: 1 < 2, z: x'00ff'}", 1)
	w.changes("INSERT INTO t VALUE {}", 1)
	w.changes("INSERT INTO t VALUE {}", 1)
	w.rows("SELECT * FROM t", "{a: -1, b: 6, l: [1, 'x', {}], n: NULL, y: TRUE, z: x'00ff'}", "{}", "{}")
	for i, r := range w.b.Revs() {
		if r.Op != api.OpInsert || r.Doc != api.OwnDoc+uint64(i) || r.Version != 0 {
			t.Error(r)
		}
	}
	if n := w.v.Rows("t").Len(); n != 0 {
		t.Error("committed documents:", n)
	}
	w.commit()
	w.rows("SELECT COUNT FROM t", "3")
}

func TestUpdate(t *testing.T) {
	w := tableOf(t, "{a: 1, b: 10}", "{a: 2, b: 20}", "{a: 3, b: 30}")
	w.changes("UPDATE t SET a = b, b = a, c = a + b WHERE a >= 2", 2)
	w.rows("SELECT * FROM t", "{a: 1, b: 10}", "{a: 20, b: 2, c: 22}", "{a: 30, b: 3, c: 33}")
	revs := w.b.Revs()
	if len(revs) != 2 || revs[0].Doc != 2 || revs[0].Version != 1 || revs[1].Doc != 3 || revs[1].Version != 1 {
		t.Error(revs)
	}
	w.changes("UPDATE t SET a = 0 WHERE a > 100", 0)
	if len(w.b.Revs()) != 2 {
		t.Error("nothing was meant, but something was done:", w.b.Revs())
	}
	w.changes("UPDATE t SET a = NULL", 3)
	w.rows("SELECT a, c FROM t", "{a: NULL, c: NULL}", "{a: NULL, c: 22}", "{a: NULL, c: 33}")
	w.changes("UPDATE t SET a = {x: b, y: [c, a]} WHERE NOT c IS NULL", 2)
	w.rows("SELECT a FROM t", "{a: NULL}", "{a: {x: 2, y: [22, NULL]}}", "{a: {x: 3, y: [33, NULL]}}")
	if x, _ := w.b.Get("t", 3); x.Version != 3 {
		t.Error("version", x.Version)
	}
}

// What does not change a document is a revision of it all the same.
func TestUpdateWithTheSame(t *testing.T) {
	w := tableOf(t, "{a: 1}", "{a: 2}")
	w.changes("UPDATE t SET a = a", 2)
	w.changes("UPDATE t SET a = 1 WHERE a = 1", 1)
	if len(w.b.Revs()) != 3 {
		t.Error(w.b.Revs())
	}
}

func TestDelete(t *testing.T) {
	w := tableOf(t, "{a: 1}", "{a: 2}", "{a: 3}", "{}")
	w.changes("DELETE FROM t WHERE a = 2 OR a IS NULL", 2)
	w.rows("SELECT * FROM t", "{a: 1}", "{a: 3}")
	w.changes("DELETE FROM t WHERE a = 2", 0)
	w.must("INSERT INTO t VALUE {a: 9}")
	w.changes("DELETE FROM t", 3)
	w.rows("SELECT * FROM t")
	var docs []uint64
	for _, r := range w.b.Revs() {
		if r.Op == api.OpDelete {
			docs = append(docs, r.Doc)
		}
	}
	if want := []uint64{2, 4, 1, 3, api.OwnDoc}; !slices.Equal(docs, want) {
		t.Errorf("%d go, want %d", docs, want)
	}
}

// Documents are changed in the order of their numbers, also if an index finds them in another one.
func TestChangesByNumbers(t *testing.T) {
	w := tableOf(t, "{a: 5}", "{a: 4}", "{a: 3}", "{a: 2}")
	w.must("CREATE INDEX ON t (a)")
	w.commit()
	w.must("INSERT INTO t VALUE {a: 1}")
	w.changes("UPDATE t SET b = 1 WHERE a < 5", 4)
	w.changes("DELETE FROM t WHERE a > 0", 5)
	var docs []uint64
	for _, r := range w.b.Revs()[1:] {
		docs = append(docs, r.Doc)
	}
	if want := []uint64{2, 3, 4, api.OwnDoc, 1, 2, 3, 4, api.OwnDoc}; !slices.Equal(docs, want) {
		t.Errorf("%d, want %d", docs, want)
	}
}

// A document whose bytes are gone is nothing: SET makes a struct of it.
func TestUpdateOfWhatIsNothing(t *testing.T) {
	w := tableOf(t)
	gone := api.Rev{Op: api.OpInsert, Table: "t", Doc: 1, Hash: strings.Repeat("h", api.HashBytes), Gone: true}
	if e := w.v.Apply(api.Block{Seq: 1, Revs: []api.Rev{gone}}); e != api.OK {
		t.Fatal(e)
	}
	w.rows("SELECT * FROM t", "NULL")
	w.rows("SELECT a, b.c FROM t WHERE a IS NULL", "{a: NULL, b.c: NULL}")
	w.changes("UPDATE t SET b = 2, a = a IS NULL", 1)
	w.rows("SELECT * FROM t", "{a: TRUE, b: 2}")
}

// The transaction alone sees what it did, and goes on with what others commit.
func TestWhatIsSeen(t *testing.T) {
	w := tableOf(t, "{a: 1}", "{a: 2}")
	other := &world{t: t, v: w.v, b: buffer.New(w.v)}
	w.must("UPDATE t SET a = 7 WHERE a = 1", "INSERT INTO t VALUE {a: 8}", "CREATE TABLE mine", "INSERT INTO mine VALUE {a: 3}")
	other.rows("SELECT a FROM t", "{a: 1}", "{a: 2}")
	other.fails("SELECT * FROM mine", api.ErrTable)
	other.must("INSERT INTO t VALUE {a: 5}", "DELETE FROM t WHERE a = 2")
	w.rows("SELECT a FROM t", "{a: 7}", "{a: 2}", "{a: 8}")
	other.commit()
	w.rows("SELECT a FROM t", "{a: 7}", "{a: 5}", "{a: 8}")
	w.rows("SELECT a FROM mine", "{a: 3}")
}

func TestErrorsOfNil(t *testing.T) {
	w := tableOf(t, "{a: 1}")
	w.must("INSERT INTO t VALUE {a: 2}")
	for _, text := range []string{"SELECT * FROM t", "DELETE FROM t", "CREATE TABLE u", "CREATE TABLE t", "SELECT * FROM nope"} {
		s := parsed(t, text)
		if l := fails(t, nil, w.b, s, api.ErrArg); len(l) != 0 {
			t.Error(text, l)
		}
		if _, c, _ := Run(nil, w.b, s); c.Table("later") != api.OK || len(w.b.Catalog()) != 1 {
			t.Errorf("%s: the answered buffer is the one that was handed in", text)
		}
		for _, v := range []*views.View{nil, w.v} {
			if r, c, e := Run(v, nil, s); e != api.ErrArg || c != nil || len(r.Rows)+len(r.Reads)+r.Changed != 0 {
				t.Error(text, r, c, e)
			}
		}
	}
}

func TestErrorsOfCheck(t *testing.T) {
	w := tableOf(t, "{a: 1}")
	w.must("CREATE INDEX ON t (a)", "CREATE TABLE own", "CREATE INDEX ON own (b)")
	for text, want := range map[string]api.Errno{
		"CREATE TABLE t":                     api.ErrTwice,
		"CREATE TABLE own":                   api.ErrTwice,
		"CREATE INDEX ON u (a)":              api.ErrTable,
		"CREATE INDEX ON t (a)":              api.ErrTwice,
		"CREATE INDEX ON own (b)":            api.ErrTwice,
		"INSERT INTO u VALUE {}":             api.ErrTable,
		"INSERT INTO t VALUE {a: a}":         api.ErrScope,
		"INSERT INTO t VALUE 3":              api.ErrType,
		"INSERT INTO t VALUE {a: 1, a: 2}":   api.ErrTwice,
		"UPDATE u SET a = 1":                 api.ErrTable,
		"UPDATE t SET a = 'x' + 1":           api.ErrType,
		"UPDATE t SET a = 1, a = 2":          api.ErrTwice,
		"UPDATE t SET a = 1 WHERE 3":         api.ErrType,
		"DELETE FROM u":                      api.ErrTable,
		"DELETE FROM t WHERE 'x'":            api.ErrType,
		"SELECT * FROM u":                    api.ErrTable,
		"SELECT * FROM HISTORY (u)":          api.ErrTable,
		"SELECT a, a FROM t":                 api.ErrTwice,
		"SELECT * FROM t WHERE a + 'x' = 1":  api.ErrType,
		"SELECT COUNT FROM t WHERE NOT 'x'":  api.ErrType,
		"SELECT * FROM HISTORY (t) WHERE 1":  api.ErrType,
		"SELECT doc, doc FROM HISTORY (t)":   api.ErrTwice,
		"SELECT * FROM own WHERE b + [] = 1": api.ErrType,
	} {
		w.fails(text, want)
	}
}

// Errors of the catalog, of what is looked at, of what is laid and of the buffer come in that order, document by document.
func TestErrorsOnTheWay(t *testing.T) {
	big := "9223372036854775807"
	long := "'" + strings.Repeat("x", 600) + "'"
	w := tableOf(t, "{a: 1, b: 'x'}", "{a: "+big+", s: "+long+"}", "{a: 'z'}")
	for text, want := range map[string]api.Errno{
		"INSERT INTO t VALUE {a: " + big + " + 1}":               api.ErrOver,
		"INSERT INTO t VALUE {a: " + long + ", b: " + long + "}": api.ErrLimit,
		"INSERT INTO t VALUE {a: [[[[[[[[1]]]]]]]]}":             api.ErrDeep,
		"SELECT * FROM t WHERE a + 1 = 2":                        api.ErrOver, // document 2, ahead of 3
		"SELECT * FROM t WHERE b + 1 = 2":                        api.ErrType, // document 1
		"SELECT * FROM t WHERE a":                                api.ErrType,
		"SELECT * FROM t WHERE a + 1 = 2 LIMIT 0":                api.ErrOver,
		"SELECT * FROM t WHERE a = 1 OR a + 1 = 2 LIMIT 1":       api.ErrOver,
		"SELECT COUNT FROM t WHERE a + 1 = 2":                    api.ErrOver,
		"SELECT a FROM HISTORY (t) WHERE data.a + 1 = 2":         api.ErrOver,
		"SELECT * FROM HISTORY (t) WHERE data":                   api.ErrType,
		"DELETE FROM t WHERE a + 1 > 0":                          api.ErrOver,
		"UPDATE t SET c = a + 1":                                 api.ErrOver, // document 2; 1 could be
		"UPDATE t SET c = a + 1, d = b + 1":                      api.ErrType, // document 1, ahead of 2
		"UPDATE t SET d = b + 1, c = a + 1":                      api.ErrType,
		"UPDATE t SET c = a + 1, d = a + b WHERE a <> 1":         api.ErrOver, // the first one of SET's
		"UPDATE t SET c = a + 1 WHERE b + 1 = 2":                 api.ErrType, // WHERE ahead of SET
		"UPDATE t SET c = a + 1 WHERE a <> 1 OR b - 1 = 0":       api.ErrType,
		"UPDATE t SET c = a + 1 WHERE a <> 'z' OR a - 1 = 0":     api.ErrType,  // WHERE of 3 ahead of SET of 2
		"UPDATE t SET c = " + long:                               api.ErrLimit, // document 2 grows too great
		"UPDATE t SET c = " + long + ", d = a - 1":               api.ErrLimit, // 2 ahead of 3, which has ErrType
		"UPDATE t SET c = " + long + ", d = -a - 2":              api.ErrOver,  // of 2, ahead of its bytes
		"UPDATE t SET c = [[[[[[[[a]]]]]]]]":                     api.ErrDeep,
	} {
		w.fails(text, want)
	}
	if len(w.b.Revs()) != 0 {
		t.Error(w.b.Revs())
	}
}

// A transaction has at most MaxRevs revisions: a statement that needs more does nothing.
func TestTooManyRevisions(t *testing.T) {
	w := tableOf(t)
	for range 40 {
		w.must("INSERT INTO t VALUE {a: 1}")
	}
	w.fails("UPDATE t SET a = 2", api.ErrLimit)
	w.fails("DELETE FROM t", api.ErrLimit)
	w.commit()
	w.changes("DELETE FROM t", 40)
	for range 24 {
		w.must("INSERT INTO t VALUE {a: 1}")
	}
	w.fails("INSERT INTO t VALUE {}", api.ErrLimit)
	w.fails("CREATE TABLE u", api.ErrLimit)
	w.fails("CREATE INDEX ON t (a)", api.ErrLimit)
	w.fails("UPDATE t SET a = 1", api.ErrLimit)
	w.fails("DELETE FROM t", api.ErrLimit)
	w.fails("CREATE TABLE t", api.ErrTwice)
	w.fails("UPDATE t SET a = 9223372036854775807 + a", api.ErrOver)
	w.changes("UPDATE t SET a = 1 WHERE a = 2", 0)
	w.rows("SELECT COUNT FROM t", "24")
	if n := len(w.b.Revs()); n != api.MaxRevs {
		t.Error(n, "revisions")
	}
}

// Statements that nobody parsed: names that are none, other many names than expressions, no kind.
func TestStatementsThatNobodyParsed(t *testing.T) {
	w := tableOf(t, "{a: 1}")
	set := []api.Expr{lit(value.Int(2)), lit(value.Int(3))}
	for _, s := range []api.Stmt{
		{Kind: api.StmtTable, Table: "no name"},
		{Kind: api.StmtTable, Table: ""},
		{Kind: api.StmtIndex, Table: "t", Field: "a.b"},
	} {
		if l := fails(t, w.v, w.b, s, api.ErrArg); len(l) != 0 {
			t.Errorf("%v: looks %q are told with ErrArg", s, l)
		}
	}
	for _, s := range []api.Stmt{
		{Table: "t"},
		{Kind: 7, Table: "t"},
		{Kind: -1, Table: "t"},
		{Kind: api.StmtUpdate, Table: "t", Names: []string{"a", "b"}, Exprs: set[:1]},
		{Kind: api.StmtUpdate, Table: "t", Names: []string{"a"}, Exprs: set},
		{Kind: api.StmtUpdate, Table: "t"},
		{Kind: api.StmtSelect, Table: "t", Limit: -7},
		{Kind: api.StmtSelect, Table: "t", Limit: -1 << 63, Order: "..", Cols: []string{"", ".", "a."}},
		{Kind: api.StmtSelect, Table: "t", Limit: 1<<63 - 1, Order: "", Desc: true},
	} {
		if _, _, e := Run(w.v, w.b, s); e != api.OK {
			t.Errorf("%v: error %d", s, e)
		}
	}
}

// Every statement of odd parts ends.
func TestEveryStatementEnds(t *testing.T) {
	w := tableOf(t, "{a: 1, b: {c: 'x'}}", "{}")
	w.must("CREATE INDEX ON t (a)")
	odd := []api.Expr{
		{}, {Kind: 9}, {Kind: -1}, {Kind: api.ExprField}, {Kind: api.ExprField, S: "a..b"}, {Kind: api.ExprNot}, {Kind: api.ExprBin, S: "="},
		{Kind: api.ExprBin, S: "?", Kids: make([]api.Expr, 2)}, {Kind: api.ExprStruct, Names: []string{"a"}}, {Kind: api.ExprList, Kids: make([]api.Expr, 3)},
		{Kind: api.ExprBin, S: "=", Kids: []api.Expr{{Kind: api.ExprField, S: "a"}, lit(api.Value{Kind: 9, Names: []string{"x"}})}},
		{Kind: api.ExprStruct}, lit(api.Value{Kind: api.Struct, Names: []string{"b", "a"}, Parts: make([]api.Value, 1)}),
	}
	for kind := -1; kind <= 8; kind++ {
		for i, x := range odd {
			for k, y := range odd {
				s := api.Stmt{Kind: kind, Table: "t", Field: "b", Value: x, Names: []string{"b", "c"}, Exprs: []api.Expr{x, y}, Where: y, Limit: i - 1, Count: k%2 == 0, History: i%2 == 0}
				ahead := told(w.b)
				r, c, e := Run(w.v, w.b, s)
				if e != api.OK && told(c) != ahead {
					t.Errorf("%v: error %d, but something was done", s, e)
				}
				if e == api.ErrArg && len(r.Reads) != 0 {
					t.Errorf("%v: looks are told with ErrArg", s)
				}
			}
		}
	}
	if len(w.b.Revs()) != 1 {
		t.Error("something was done to what was handed in:", w.b.Revs())
	}
}

// Expressions that are nested as deeply as may be, and values that are, end with an answer.
func TestNestedDeeply(t *testing.T) {
	w := tableOf(t, "{a: 1}", "{a: 2}")
	w.must("CREATE INDEX ON t (a)")
	a := api.Expr{Kind: api.ExprField, S: "a"}
	not, list, and := lit(value.Bool(true)), lit(value.List()), lit(value.Bool(true))
	v := value.List()
	for range 1 << 16 {
		not = api.Expr{Kind: api.ExprNot, Kids: []api.Expr{not}}
		list = api.Expr{Kind: api.ExprList, Kids: []api.Expr{list}}
		and = api.Expr{Kind: api.ExprBin, S: "AND", Kids: []api.Expr{and, {Kind: api.ExprBin, S: "=", Kids: []api.Expr{a, lit(value.Int(2))}}}}
		v = api.Value{Kind: api.List, Parts: []api.Value{v}}
	}
	for _, where := range []api.Expr{not, and} {
		r, _, e := Run(w.v, w.b, api.Stmt{Kind: api.StmtSelect, Table: "t", Count: true, Where: where, Limit: -1})
		if e != api.OK || len(r.Rows) != 1 || r.Rows[0].N < 1 {
			t.Error(r.Rows, e)
		}
	}
	for _, x := range []api.Expr{list, lit(v)} {
		fails(t, w.v, w.b, api.Stmt{Kind: api.StmtUpdate, Table: "t", Names: []string{"a"}, Exprs: []api.Expr{x}}, api.ErrDeep)
		fails(t, w.v, w.b, api.Stmt{Kind: api.StmtInsert, Table: "t", Value: api.Expr{Kind: api.ExprStruct, Names: []string{"a"}, Kids: []api.Expr{x}}}, api.ErrDeep)
	}
}

// What is handed in is not changed, and what is answered is the caller's own.
func TestWhatIsHandedInAndOut(t *testing.T) {
	texts := []string{
		"SELECT * FROM t WHERE a = 1 OR a = {x: [1]}", "SELECT l, s.x FROM t", "SELECT * FROM HISTORY (t)", "SELECT data.l, doc FROM HISTORY (t) ORDER BY doc DESC", "SELECT COUNT FROM t",
		"INSERT INTO t VALUE {a: [1, [2]], b: {x: 1}}", "UPDATE t SET l = [a, l], b = {y: s}", "DELETE FROM t WHERE a = 1", "CREATE TABLE u", "CREATE INDEX ON t (b)",
		"SELECT * FROM nope", "UPDATE t SET a = a + 1", "INSERT INTO t VALUE {a: -'x'}",
	}
	w := tableOf(t, "{a: 1, l: [1, [2, 'x']], s: {x: {y: 1}}}", "{a: 'q', l: [{z: 3}], s: 4}")
	w.must("CREATE INDEX ON t (a)", "INSERT INTO t VALUE {a: 2, l: [5, 6]}")
	for _, text := range texts {
		s, ahead := parsed(t, text), told(w.b)
		copied := fmt.Sprint(s)
		r, c, e := Run(w.v, w.b, s)
		want, did := answer(r, e), told(c)
		if told(w.b) != ahead || fmt.Sprint(s) != copied {
			t.Errorf("%s: changes what is handed in", text)
		}
		// The statement may be changed later.
		spoilExpr(s.Where)
		spoilExpr(s.Value)
		for _, x := range s.Exprs {
			spoilExpr(x)
		}
		for _, l := range [][]string{s.Cols, s.Names} {
			for i := range l {
				l[i] = "spoilt"
			}
		}
		if answer(r, e) != want || told(c) != did {
			t.Errorf("%s: the answer hangs on the statement", text)
		}
		// So may the answer: neither the other buffer nor what is committed has it.
		for _, v := range r.Rows {
			spoil(v)
		}
		for i := range r.Reads {
			r.Reads[i] = api.Read{}
		}
		if told(w.b) != ahead || told(c) != did {
			t.Errorf("%s: the answer's lists are somebody else's, too", text)
		}
		if e := c.Table("later"); e != api.OK {
			t.Fatal(e)
		}
		if _, e := c.Insert("t", value.Struct(nil, nil)); e != api.OK {
			t.Fatal(e)
		}
		if told(w.b) != ahead {
			t.Errorf("%s: what is done to the answered buffer is done to the other one, too", text)
		}
		again, d, e := Run(w.v, w.b, parsed(t, text))
		if answer(again, e) != want || told(d) != did {
			t.Errorf("%s: the same call answers otherwise:\n%s, want\n%s", text, answer(again, e), want)
		}
	}
}

// No two rows of an answer share lists.
func TestRowsShareNothing(t *testing.T) {
	w := tableOf(t, "{l: [1, 2], b: {l: [3]}}", "{l: [1, 2], b: {l: [3]}}")
	for _, text := range []string{"SELECT * FROM t", "SELECT b, b.l, l FROM t", "SELECT * FROM HISTORY (t)", "SELECT data, data.l, data.b FROM HISTORY (t)"} {
		r := w.must(text)
		parts := slices.Concat(r.Rows[0].Parts, r.Rows[1].Parts)
		for i := range parts {
			ahead := shown(slices.Concat(parts[:i], parts[i+1:]))
			spoil(parts[i])
			if !slices.Equal(shown(slices.Concat(parts[:i], parts[i+1:])), ahead) {
				t.Errorf("%s: part %d shares lists with another one", text, i)
			}
		}
	}
}
