package check

import (
	"math/rand"
	"reflect"
	"slices"
	"testing"

	"parchment/api"
	"parchment/syntax"
)

// tables are those of most of the tests: t has indexes, bare has none.
func tables() api.Catalog {
	return api.Catalog{"t": {"a", "b"}, "bare": nil, "empty": {}}
}

// stmt is the statement that a text says.
func stmt(t *testing.T, s string) api.Stmt {
	t.Helper()
	x, _, e := syntax.Parse(s)
	if e != 0 {
		t.Fatal(s, e)
	}
	return x
}

// told holds Stmt of a text against an error.
func told(t *testing.T, s string, want api.Errno) {
	t.Helper()
	if e := Stmt(tables(), stmt(t, s)); e != want {
		t.Errorf("Stmt(%q) = %d, want %d", s, e, want)
	}
}

// toldOf holds Stmt of a statement against an error.
func toldOf(t *testing.T, s api.Stmt, want api.Errno) {
	t.Helper()
	if e := Stmt(tables(), s); e != want {
		t.Errorf("Stmt(%v) = %d, want %d", s, e, want)
	}
}

// Promise 13.1: CREATE TABLE is ErrTwice of a table that is there, with indexes or without.
func TestStmtTable(t *testing.T) {
	told(t, "CREATE TABLE u", 0)
	told(t, "CREATE TABLE T", 0)
	told(t, "CREATE TABLE a", 0)
	told(t, "CREATE TABLE t", 133)
	told(t, "CREATE TABLE bare", 133)
	told(t, "CREATE TABLE empty", 133)
}

// Promise 13.1: CREATE INDEX is ErrTable of a table that is not there, else ErrTwice of a field that has one.
func TestStmtIndex(t *testing.T) {
	told(t, "CREATE INDEX ON u (a)", 130)
	told(t, "CREATE INDEX ON t (a)", 133)
	told(t, "CREATE INDEX ON t (b)", 133)
	told(t, "CREATE INDEX ON t (c)", 0)
	told(t, "CREATE INDEX ON t (A)", 0)
	told(t, "CREATE INDEX ON t (t)", 0)
	told(t, "CREATE INDEX ON bare (a)", 0)
	told(t, "CREATE INDEX ON empty (a)", 0)
}

// Promise 13.1: INSERT is ErrTable, then the error of its expression without a document, then ErrType of what is no struct.
func TestStmtInsert(t *testing.T) {
	told(t, "INSERT INTO u VALUE {}", 130)
	told(t, "INSERT INTO u VALUE {a: b}", 130)
	told(t, "INSERT INTO u VALUE 1", 130)
	for _, table := range []string{"t", "bare", "empty"} {
		told(t, "INSERT INTO "+table+" VALUE {}", 0)
		told(t, "INSERT INTO "+table+" VALUE {a: 1, b: [1, {a: NULL}], c: NULL + 1, d: NOT TRUE}", 0)
		told(t, "INSERT INTO "+table+" VALUE {a: b}", 132)
		told(t, "INSERT INTO "+table+" VALUE a", 132)
		told(t, "INSERT INTO "+table+" VALUE [a]", 132)
		told(t, "INSERT INTO "+table+" VALUE {a: 1, a: 2}", 133)
		told(t, "INSERT INTO "+table+" VALUE [{a: 1, a: 2}]", 133)
		told(t, "INSERT INTO "+table+" VALUE {a: -'x'}", 131)
		told(t, "INSERT INTO "+table+" VALUE {a: b, a: -'x'}", 132)
		told(t, "INSERT INTO "+table+" VALUE {a: -'x', a: b}", 131)
	}
	for _, s := range bare() {
		want := api.Errno(0)
		if s.kind != docs {
			want = 131
		}
		toldOf(t, api.Stmt{Kind: 3, Table: "t", Value: s.x, Limit: -1}, want)
	}
	for _, s := range inDoc() {
		toldOf(t, api.Stmt{Kind: 3, Table: "t", Value: s.x, Limit: -1}, 132)
	}
}

// Promise 13.1: WHERE of UPDATE, SELECT and DELETE has a document, and takes yes and no, NULL and what is of any kind.
func TestStmtWhere(t *testing.T) {
	for _, head := range []string{"UPDATE t SET a = 1", "SELECT * FROM t", "SELECT COUNT FROM t", "SELECT a, b FROM HISTORY (t)", "DELETE FROM t"} {
		told(t, head, 0)
		whole := stmt(t, head)
		for _, s := range all() {
			whole.Where = s.x
			want := api.Errno(0)
			if s.kind != truths && s.kind != null && s.kind != free {
				want = 131
			}
			toldOf(t, whole, want)
			whole.Table = "u"
			toldOf(t, whole, 130)
			whole.Table = "t"
		}
		told(t, head+" WHERE a", 0)
		told(t, head+" WHERE NULL", 0)
		told(t, head+" WHERE a + 1", 0)
		told(t, head+" WHERE a + 1 = 2", 0)
		told(t, head+" WHERE a + 'x' = 1", 131)
		told(t, head+" WHERE 1", 131)
		told(t, head+" WHERE 1 + 1", 131)
		told(t, head+" WHERE -1", 131)
		told(t, head+" WHERE 'x'", 131)
		told(t, head+" WHERE x'00'", 131)
		told(t, head+" WHERE []", 131)
		told(t, head+" WHERE {}", 131)
		told(t, head+" WHERE {a: 1, a: 2}", 133)
		told(t, head+" WHERE {a: 1, a: 2} = 1", 133)
		told(t, head+" WHERE {a: 1, a: -{}} = 1", 131)
	}
}

// Promise 13.1: UPDATE is ErrTable; the error of the first of SET's that has one, with a document; ErrTwice of a name; WHERE's.
func TestStmtUpdate(t *testing.T) {
	told(t, "UPDATE u SET a = 1", 130)
	told(t, "UPDATE u SET a = -'x', a = {b: 1, b: 1} WHERE 1", 130)
	told(t, "UPDATE t SET a = b, b = a, c = NULL, d = [a], e = {a: a}, f = NOT a WHERE a = 1", 0)
	told(t, "UPDATE bare SET a = 'x' WHERE b", 0)
	told(t, "UPDATE t SET a = -'x'", 131)
	told(t, "UPDATE t SET a = 1, b = -'x'", 131)
	told(t, "UPDATE t SET a = {b: 1, b: 1}, b = -'x'", 133)
	told(t, "UPDATE t SET a = -'x', b = {b: 1, b: 1}", 131)
	told(t, "UPDATE t SET a = 1, b = -'x', c = {b: 1, b: 1}", 131)
	told(t, "UPDATE t SET a = 1, a = 2", 133)
	told(t, "UPDATE t SET a = 1, b = 1, a = 1", 133)
	told(t, "UPDATE t SET b = 1, a = 1, c = 1, a = 1", 133)
	told(t, "UPDATE t SET a = 1, A = 1, aa = 1", 0)
	told(t, "UPDATE t SET a = 1, a = -'x'", 131)
	told(t, "UPDATE t SET a = 1, a = 2 WHERE 1", 133)
	told(t, "UPDATE t SET a = 1, a = 2 WHERE -'x' = 1", 133)
	told(t, "UPDATE t SET a = 1, b = 2 WHERE -'x' = 1", 131)
	told(t, "UPDATE t SET a = 1, b = 2 WHERE {a: 1, a: 1} = 1", 133)
	told(t, "UPDATE t SET a = -'x' WHERE {a: 1, a: 1} = 1", 131)
	told(t, "UPDATE t SET a = {a: 1, a: 1} WHERE 1", 133)
}

// Promise 13.1: SELECT is ErrTable; ErrTwice of a column; WHERE's error. ORDER BY, LIMIT and the history change nothing of it.
func TestStmtSelect(t *testing.T) {
	for _, tail := range []string{"", " ORDER BY a", " ORDER BY a.b DESC LIMIT 0"} {
		for _, from := range []string{"t", "HISTORY (t)", "bare", "HISTORY (empty)"} {
			told(t, "SELECT * FROM "+from+tail, 0)
			told(t, "SELECT COUNT FROM "+from+tail, 0)
			told(t, "SELECT a, b, a.b, b.a, A, aa FROM "+from+tail, 0)
			told(t, "SELECT a, a FROM "+from+tail, 133)
			told(t, "SELECT a.b, a, a.b FROM "+from+tail, 133)
			told(t, "SELECT a, b, c, b FROM "+from+tail, 133)
			told(t, "SELECT a, a FROM "+from+" WHERE 1"+tail, 133)
			told(t, "SELECT a, a FROM "+from+" WHERE a"+tail, 133)
			told(t, "SELECT a, a FROM "+from+" WHERE -'x' = 1"+tail, 133)
			told(t, "SELECT a, b FROM "+from+" WHERE -'x' = 1"+tail, 131)
			told(t, "SELECT a, b FROM "+from+" WHERE a = b"+tail, 0)
		}
		told(t, "SELECT a, a FROM u WHERE 1"+tail, 130)
		told(t, "SELECT * FROM HISTORY (u)"+tail, 130)
	}
}

// Promise 13.1: DELETE is ErrTable, then WHERE's error.
func TestStmtDelete(t *testing.T) {
	told(t, "DELETE FROM u", 130)
	told(t, "DELETE FROM u WHERE 1", 130)
	told(t, "DELETE FROM t", 0)
	told(t, "DELETE FROM t WHERE a + 1 = 2", 0)
	told(t, "DELETE FROM t WHERE 'x' + 1 = 2", 131)
	told(t, "DELETE FROM t WHERE 1", 131)
}

// R1: of a catalog that is nil, or empty, there is no table.
func TestStmtWithoutTables(t *testing.T) {
	for _, c := range []api.Catalog{nil, {}} {
		for _, s := range []string{"CREATE INDEX ON t (a)", "INSERT INTO t VALUE {}", "INSERT INTO t VALUE a", "UPDATE t SET a = 1, a = 2", "DELETE FROM t", "SELECT a, a FROM t", "SELECT * FROM HISTORY (t)"} {
			if e := Stmt(c, stmt(t, s)); e != 130 {
				t.Error(s, e)
			}
		}
		if e := Stmt(c, stmt(t, "CREATE TABLE t")); e != 0 {
			t.Error(e)
		}
	}
}

// Promise 13.1: a statement of a kind that there is none of is ErrTable, too, if its table is not there; else nothing is said against it.
func TestStmtOfNoKind(t *testing.T) {
	for _, kind := range []int{-1, 0, 7, 8, 1 << 40} {
		s := api.Stmt{Kind: kind, Table: "u", Value: num(1), Where: num(1), Names: []string{"a", "a"}, Cols: []string{"a", "a"}}
		toldOf(t, s, 130)
		s.Table = "t"
		toldOf(t, s, 0)
	}
	toldOf(t, api.Stmt{}, 130)
}

// Promise 13.1: what belongs to statements of other kinds is not looked at.
func TestStmtOtherKindsParts(t *testing.T) {
	wrong := neg(str("x"))
	s := api.Stmt{Table: "t", Field: "a", Value: wrong, Names: []string{"n", "n"}, Exprs: []api.Expr{wrong}, Where: wrong, Cols: []string{"c", "c"}}
	only := func(kind int, change func(*api.Stmt)) api.Stmt {
		x := s
		x.Kind = kind
		change(&x)
		return x
	}
	toldOf(t, only(1, func(x *api.Stmt) { x.Table = "u" }), 0)
	toldOf(t, only(2, func(x *api.Stmt) { x.Field = "c" }), 0)
	toldOf(t, only(3, func(x *api.Stmt) { x.Value = structure("") }), 0)
	toldOf(t, only(4, func(x *api.Stmt) { x.Names, x.Exprs, x.Where = []string{"n"}, []api.Expr{num(1)}, none() }), 0)
	toldOf(t, only(5, func(x *api.Stmt) { x.Where = none() }), 0)
	toldOf(t, only(6, func(x *api.Stmt) { x.Where, x.Cols = none(), nil }), 0)
}

// R3: lists that are empty are as those that are nil.
func TestStmtEmptyLists(t *testing.T) {
	for kind := 1; kind <= 6; kind++ {
		for _, table := range []string{"t", "bare", "empty", "u"} {
			s := api.Stmt{Kind: kind, Table: table, Field: "f", Value: structure("")}
			want := Stmt(tables(), s)
			s.Names, s.Exprs, s.Cols = []string{}, []api.Expr{}, []string{}
			s.Value.Names, s.Value.Kids = []string{}, []api.Expr{}
			toldOf(t, s, want)
		}
	}
}

// copied is an expression with lists of its own.
func copied(x api.Expr) api.Expr {
	x.Names, x.Kids = slices.Clone(x.Names), copiedAll(x.Kids)
	return x
}

func copiedAll(l []api.Expr) []api.Expr {
	l = slices.Clone(l)
	for i := range l {
		l[i] = copied(l[i])
	}
	return l
}

// R2 and R4: the catalog and the statement stay as they were, and asked again the answer is the same.
func TestStmtChangesNothing(t *testing.T) {
	r := rand.New(rand.NewSource(31))
	names := []string{"z", "b", "a", "y", "b"}
	for range 4000 {
		from := r.Intn(3)
		s := api.Stmt{
			Kind: 1 + r.Intn(6), Table: []string{"t", "u", "bare"}[r.Intn(3)], Field: "a", Value: grown(r, 3), Where: grown(r, 3),
			Names: names[from : from+3], Exprs: []api.Expr{grown(r, 3), grown(r, 2)}, Cols: names[:r.Intn(5)],
		}
		c := api.Catalog{"t": {"z", "a", "c"}, "bare": nil}
		was := s
		was.Names, was.Cols, was.Exprs = slices.Clone(s.Names), slices.Clone(s.Cols), copiedAll(s.Exprs)
		was.Value, was.Where = copied(s.Value), copied(s.Where)
		first := Stmt(c, s)
		if again := Stmt(c, s); again != first {
			t.Fatal(s, first, again)
		}
		if !reflect.DeepEqual(s, was) || !reflect.DeepEqual(c, api.Catalog{"t": {"z", "a", "c"}, "bare": nil}) {
			t.Fatal("changed:", s, was, c)
		}
	}
	if !slices.Equal(names, []string{"z", "b", "a", "y", "b"}) {
		t.Error(names)
	}
}

// wanted is a second making of Stmt: all errors that apply, in the order in which they are named, of which the first one is told.
func wanted(c api.Catalog, s api.Stmt) api.Errno {
	var errors []api.Errno
	when := func(wrong bool, e api.Errno) {
		if wrong {
			errors = append(errors, e)
		}
	}
	of := func(x api.Expr, fields bool) int {
		kind, e := modelKind(x, fields)
		when(e != 0, e)
		return kind
	}
	repeated := func(l []string) bool {
		for i := range l {
			if slices.Contains(l[i+1:], l[i]) {
				return true
			}
		}
		return false
	}
	indexes, there := c[s.Table]
	when(s.Kind == 1 && there, 133)
	when(s.Kind != 1 && !there, 130)
	when(s.Kind == 2 && slices.Contains(indexes, s.Field), 133)
	if s.Kind == 3 {
		when(of(s.Value, false) != 6, 131)
	}
	if s.Kind == 4 {
		for _, x := range s.Exprs {
			of(x, true)
		}
		when(repeated(s.Names), 133)
	}
	when(s.Kind == 6 && repeated(s.Cols), 133)
	if s.Kind >= 4 && s.Where.Kind != 0 {
		when(!slices.Contains([]int{1, 0, -1}, of(s.Where, true)), 131)
	}
	return append(errors, 0)[0]
}

// Promise 13.1: statements at random, with several errors at once, are told the one that is named first.
func TestStmtAtRandom(t *testing.T) {
	r := rand.New(rand.NewSource(7))
	names := func() []string {
		l := []string{"a", "b", "c", "d", "e.f"}
		r.Shuffle(len(l), func(i, k int) { l[i], l[k] = l[k], l[i] })
		if r.Intn(3) == 0 {
			l[r.Intn(5)] = l[r.Intn(5)]
		}
		return l[:r.Intn(6)]
	}
	where := func() api.Expr {
		if r.Intn(4) == 0 {
			return api.Expr{}
		}
		return grown(r, 1+r.Intn(4))
	}
	seen := map[api.Errno]int{}
	for range 60000 {
		s := api.Stmt{
			Kind: 1 + r.Intn(6), Table: []string{"t", "t", "bare", "empty", "u"}[r.Intn(5)], Field: []string{"a", "b", "c"}[r.Intn(3)], Value: grown(r, 1+r.Intn(4)), Where: where(),
			Names: names(), Cols: names(),
		}
		for range s.Names {
			s.Exprs = append(s.Exprs, grown(r, 1+r.Intn(2)))
		}
		want := wanted(tables(), s)
		seen[want]++
		toldOf(t, s, want)
	}
	if len(seen) != 5 {
		t.Error(seen)
	}
}
