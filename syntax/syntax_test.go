package syntax

import (
	"fmt"
	"reflect"
	"slices"
	"strconv"
	"strings"
	"testing"

	"parchment/api"
	"parchment/lex"
)

// allKeys and allSigns are written out anew, as lex's chapter has them.
const (
	allKeys  = "AND BY COUNT CREATE DELETE DESC FALSE FROM HISTORY INDEX INSERT INTO IS LIMIT NOT NULL ON OR ORDER SELECT SET TABLE TRUE UPDATE VALUE WHERE"
	allSigns = "<> <= >= = < > + - * ( ) { } [ ] , : ."
)

// wherever is what stands ahead of an expression in most of the tests.
const wherever = "DELETE FROM t WHERE "

// samples are statements of each kind, long and short.
var samples = []string{
	"CREATE TABLE t",
	"CREATE INDEX ON t (f)",
	"INSERT INTO t VALUE {a: 1, b: [x'00', 'x', NULL, TRUE], c: {}, d: []}",
	"INSERT INTO t VALUE a.b",
	"UPDATE t SET a = 1",
	"UPDATE t SET a = b.c + 1, d = FALSE, e = {f: -1} WHERE g IS NOT NULL AND h",
	"DELETE FROM t",
	"DELETE FROM t WHERE NOT (a = 1 OR b <> -(2 - c) * 3) IS NULL",
	"SELECT * FROM t",
	"SELECT COUNT FROM HISTORY (t)",
	"SELECT a, b.c.d, e FROM t WHERE a >= 1 AND b.c < 'x' OR NOT d ORDER BY a.b DESC LIMIT 5",
	"SELECT a FROM HISTORY (t) WHERE [a, 1 + 2] = [] ORDER BY a LIMIT 0",
}

func lit(v api.Value) api.Expr { return api.Expr{Kind: 1, V: v} }
func num(n int64) api.Expr     { return lit(api.Value{Kind: 2, N: n}) }
func str(s string) api.Expr    { return lit(api.Value{Kind: 3, S: s}) }
func hexa(s string) api.Expr   { return lit(api.Value{Kind: 4, S: s}) }
func null() api.Expr           { return lit(api.Value{}) }
func truth(b bool) api.Expr    { return lit(api.Value{Kind: 1, B: b}) }
func path(s string) api.Expr   { return api.Expr{Kind: 2, S: s} }
func neg(x api.Expr) api.Expr  { return api.Expr{Kind: 3, Kids: []api.Expr{x}} }
func not(x api.Expr) api.Expr  { return api.Expr{Kind: 4, Kids: []api.Expr{x}} }
func isNull(x api.Expr) api.Expr {
	return api.Expr{Kind: 5, Kids: []api.Expr{x}}
}
func bin(a api.Expr, sign string, b api.Expr) api.Expr {
	return api.Expr{Kind: 6, S: sign, Kids: []api.Expr{a, b}}
}
func list(l ...api.Expr) api.Expr { return api.Expr{Kind: 7, Kids: l} }
func fields(names string, l ...api.Expr) api.Expr {
	return api.Expr{Kind: 8, Names: strings.Fields(names), Kids: l}
}

// bare is an expression in which lists that are empty are nil.
func bare(x api.Expr) api.Expr {
	if len(x.Names) == 0 {
		x.Names = nil
	}
	if len(x.V.Parts) == 0 {
		x.V.Parts = nil
	}
	if len(x.V.Names) == 0 {
		x.V.Names = nil
	}
	x.Kids = bareAll(x.Kids)
	return x
}

func bareAll(l []api.Expr) []api.Expr {
	var out []api.Expr
	for _, x := range l {
		out = append(out, bare(x))
	}
	return out
}

func bareStmt(s api.Stmt) api.Stmt {
	s.Value, s.Where, s.Exprs = bare(s.Value), bare(s.Where), bareAll(s.Exprs)
	if len(s.Names) == 0 {
		s.Names = nil
	}
	if len(s.Cols) == 0 {
		s.Cols = nil
	}
	return s
}

// parsed holds the statement of a text against the one that it must be.
func parsed(t *testing.T, s string, want api.Stmt) {
	t.Helper()
	x, at, e := Parse(s)
	if e != api.OK || at != 0 || !reflect.DeepEqual(bareStmt(x), bareStmt(want)) {
		t.Errorf("Parse(%q) = %v, %d, %d, want %v, 0, 0", s, x, at, e, want)
	}
}

// refused asks that a text is none, with an error, at a place.
func refused(t *testing.T, s string, place int, want api.Errno) {
	t.Helper()
	x, at, e := Parse(s)
	if e != want || at != place || !reflect.DeepEqual(bareStmt(x), api.Stmt{}) {
		t.Errorf("Parse(%q) = %v, %d, %d, want nothing, %d, %d", s, x, at, e, place, want)
	}
}

// wrong asks that a text, in which a bar stands ahead of the word that may not stand there, is refused at that word.
func wrong(t *testing.T, marked string) {
	t.Helper()
	place := strings.Index(marked, "|")
	refused(t, strings.Replace(marked, "|", "", 1), place, 120)
}

// tooMuch is likewise of what is more than there may be.
func tooMuch(t *testing.T, marked string) {
	t.Helper()
	place := strings.Index(marked, "|")
	refused(t, strings.Replace(marked, "|", "", 1), place, 3)
}

// means holds an expression against the one that it must be, wherever one may stand.
func means(t *testing.T, s string, want api.Expr) {
	t.Helper()
	parsed(t, "DELETE FROM t WHERE "+s, api.Stmt{Kind: 5, Table: "t", Where: want, Limit: -1})
	parsed(t, "INSERT INTO t VALUE "+s, api.Stmt{Kind: 3, Table: "t", Value: want, Limit: -1})
	parsed(t, "UPDATE t SET f = "+s+" WHERE "+s+" ", api.Stmt{Kind: 4, Table: "t", Names: []string{"f"}, Exprs: []api.Expr{want}, Where: want, Limit: -1})
	parsed(t, "SELECT * FROM t WHERE "+s+" LIMIT 1", api.Stmt{Kind: 6, Table: "t", Where: want, Limit: 1})
}

// Promise 12.1: Rank of each key and sign, as a word of its kind and of all others.
func TestRank(t *testing.T) {
	ranks := map[string]int{"OR": 0, "AND": 1, "=": 3, "<>": 3, "<": 3, "<=": 3, ">": 3, ">=": 3, "+": 4, "-": 4, "*": 5}
	for _, s := range append(strings.Fields(allKeys), strings.Fields(allSigns)...) {
		right := 6
		if slices.Contains(strings.Fields(allKeys), s) {
			right = 2
		}
		want, between := ranks[s]
		for kind := -2; kind <= 9; kind++ {
			for _, at := range []int{0, 1, -1, 1999} {
				got := Rank(api.Word{Kind: kind, S: s, At: at})
				if kind == right && between && got != want {
					t.Errorf("Rank of %q is %d, want %d", s, got, want)
				}
				if (kind != right || !between) && got != -1 {
					t.Errorf("Rank of %q as a word of kind %d is %d", s, kind, got)
				}
			}
		}
	}
}

// Promise 12.1: words that are neither keys nor signs have no rank, whatever they say.
func TestRankNone(t *testing.T) {
	for _, s := range []string{"", " ", "or", "and", "Or", "OR ", " OR", "XOR", "==", "=<", "=>", "!=", "><", "/", "%", "**", "++", "--", "<>=", "a", "0", "'", "\x00", "= "} {
		for kind := -2; kind <= 9; kind++ {
			if got := Rank(api.Word{Kind: kind, S: s}); got != -1 {
				t.Errorf("Rank of %q as a word of kind %d is %d", s, kind, got)
			}
		}
	}
	if got := Rank(api.Word{}); got != -1 {
		t.Errorf("Rank of the end is %d", got)
	}
}

// Promise 12.1: the chapter's example.
func TestExample(t *testing.T) {
	means(t, "a = 1 OR b = 2 AND NOT c",
		bin(bin(path("a"), "=", num(1)), "OR", bin(bin(path("b"), "=", num(2)), "AND", not(path("c")))))
}

// Promise 12.1: CREATE TABLE.
func TestTable(t *testing.T) {
	parsed(t, "CREATE TABLE t", api.Stmt{Kind: 1, Table: "t", Limit: -1})
	parsed(t, "\n\tCREATE  TABLE\nlong_name_0123_Z ", api.Stmt{Kind: 1, Table: "long_name_0123_Z", Limit: -1})
	parsed(t, "CREATE TABLE table", api.Stmt{Kind: 1, Table: "table", Limit: -1})
	wrong(t, "CREATE |t")
	wrong(t, "CREATE TABLE t|, u")
	wrong(t, "CREATE TABLE t|.u")
	wrong(t, "CREATE TABLE |(t)")
	wrong(t, "CREATE TABLE |'t'")
	wrong(t, "CREATE TABLE |1")
	wrong(t, "CREATE TABLE |x'00'")
	wrong(t, "CREATE TABLE |*")
	wrong(t, "CREATE TABLE |TABLE t")
	wrong(t, "CREATE |CREATE TABLE t")
	wrong(t, "|TABLE t")
	wrong(t, "|create TABLE t")
	wrong(t, "CREATE |table t")
	wrong(t, "CREATE |'TABLE' t")
	wrong(t, "|'CREATE' TABLE t")
	wrong(t, "CREATE TABLE t |WHERE a")
}

// Promise 12.1: CREATE INDEX.
func TestIndex(t *testing.T) {
	parsed(t, "CREATE INDEX ON t (f)", api.Stmt{Kind: 2, Table: "t", Field: "f", Limit: -1})
	parsed(t, "CREATE INDEX ON t(t)", api.Stmt{Kind: 2, Table: "t", Field: "t", Limit: -1})
	wrong(t, "CREATE INDEX |t (f)")
	wrong(t, "CREATE INDEX ON |(f)")
	wrong(t, "CREATE INDEX ON t |f")
	wrong(t, "CREATE INDEX ON t |[f]")
	wrong(t, "CREATE INDEX ON t (|)")
	wrong(t, "CREATE INDEX ON t (f|.g)")
	wrong(t, "CREATE INDEX ON t (f|, g)")
	wrong(t, "CREATE INDEX ON t (f|]")
	wrong(t, "CREATE INDEX ON t (|'f')")
	wrong(t, "CREATE INDEX ON t (|1)")
	wrong(t, "CREATE INDEX ON t (|(f))")
	wrong(t, "CREATE INDEX ON t (f)|)")
	wrong(t, "CREATE INDEX ON t|.u (f)")
	wrong(t, "CREATE INDEX |TABLE t")
	wrong(t, "CREATE INDEX ON t (f|")
}

// Promise 12.1: INSERT.
func TestInsert(t *testing.T) {
	parsed(t, "INSERT INTO t VALUE {}", api.Stmt{Kind: 3, Table: "t", Value: fields(""), Limit: -1})
	parsed(t, "INSERT INTO t VALUE {a: 1, b: {c: 'x'}}", api.Stmt{Kind: 3, Table: "t", Value: fields("a b", num(1), fields("c", str("x"))), Limit: -1})
	// Which expressions may be inserted is not told here.
	parsed(t, "INSERT INTO t VALUE 1 OR a", api.Stmt{Kind: 3, Table: "t", Value: bin(num(1), "OR", path("a")), Limit: -1})
	wrong(t, "INSERT |t VALUE {}")
	wrong(t, "INSERT INTO |VALUE {}")
	wrong(t, "INSERT INTO t |{}")
	wrong(t, "INSERT INTO t VALUE|")
	wrong(t, "INSERT INTO t VALUE {}|, {}")
	wrong(t, "INSERT INTO t VALUE {} |{}")
	wrong(t, "INSERT INTO t VALUE {} |WHERE a")
	wrong(t, "INSERT INTO t |VALUES {}")
	wrong(t, "INSERT INTO t|.u VALUE {}")
	wrong(t, "INSERT INTO t |SET a = 1")
}

// Promise 12.1: UPDATE with one field and several, with and without WHERE.
func TestUpdate(t *testing.T) {
	one := api.Stmt{Kind: 4, Table: "t", Names: []string{"a"}, Exprs: []api.Expr{num(1)}, Limit: -1}
	parsed(t, "UPDATE t SET a = 1", one)
	one.Where = bin(path("b.c"), ">", num(2))
	parsed(t, "UPDATE t SET a = 1 WHERE b.c > 2", one)
	many := api.Stmt{Kind: 4, Table: "t", Names: []string{"b", "a", "b"}, Exprs: []api.Expr{null(), bin(path("x"), "=", path("y")), path("a.b")}, Limit: -1}
	parsed(t, "UPDATE t SET b = NULL, a = x = y, b = a.b", many)
	many.Where = isNull(path("c"))
	parsed(t, "UPDATE t SET b = NULL, a = x = y, b = a.b WHERE c IS NULL", many)
	wrong(t, "UPDATE |SET a = 1")
	wrong(t, "UPDATE t |a = 1")
	wrong(t, "UPDATE t SET |")
	wrong(t, "UPDATE t SET |WHERE a")
	wrong(t, "UPDATE t SET a |1")
	wrong(t, "UPDATE t SET a |: 1")
	wrong(t, "UPDATE t SET a |<= 1")
	wrong(t, "UPDATE t SET a = |= 1")
	wrong(t, "UPDATE t SET a = |, b = 1")
	wrong(t, "UPDATE t SET a = 1, |")
	wrong(t, "UPDATE t SET a = 1, |WHERE b")
	wrong(t, "UPDATE t SET a = 1,|, b = 1")
	wrong(t, "UPDATE t SET |, a = 1")
	wrong(t, "UPDATE t SET a = 1 |b = 1")
	wrong(t, "UPDATE t SET a|.b = 1")
	wrong(t, "UPDATE t SET |(a = 1)")
	wrong(t, "UPDATE t SET |'a' = 1")
	wrong(t, "UPDATE t SET |1 = 1")
	wrong(t, "UPDATE t SET a = 1 = 2 |= 3")
	wrong(t, "UPDATE t SET a = 1 WHERE|")
	wrong(t, "UPDATE t SET a = 1 WHERE b = 1|, c = 1")
	wrong(t, "UPDATE t SET a = 1 WHERE b |WHERE c")
	wrong(t, "UPDATE t |WHERE b SET a = 1")
	wrong(t, "UPDATE t SET a = 1 |LIMIT 1")
	wrong(t, "UPDATE t SET a = 1 |ORDER BY a")
	wrong(t, "UPDATE |HISTORY (t) SET a = 1")
}

// Promise 12.1: DELETE with and without WHERE.
func TestDelete(t *testing.T) {
	parsed(t, "DELETE FROM t", api.Stmt{Kind: 5, Table: "t", Limit: -1})
	parsed(t, "DELETE FROM t WHERE a", api.Stmt{Kind: 5, Table: "t", Where: path("a"), Limit: -1})
	wrong(t, "DELETE |t")
	wrong(t, "DELETE FROM |WHERE a")
	wrong(t, "DELETE FROM t |a")
	wrong(t, "DELETE FROM t WHERE|")
	wrong(t, "DELETE FROM t WHERE |WHERE a")
	wrong(t, "DELETE FROM t WHERE a |WHERE a")
	wrong(t, "DELETE |* FROM t")
	wrong(t, "DELETE FROM |HISTORY (t)")
	wrong(t, "DELETE FROM t |LIMIT 1")
	wrong(t, "DELETE FROM t WHERE a |ORDER BY a")
	wrong(t, "DELETE FROM t|, u")
}

// Promise 12.1: SELECT, with each of its parts there and left out, in all their combinations.
func TestSelect(t *testing.T) {
	type piece struct {
		text string
		lay  func(s *api.Stmt)
	}
	none := piece{"", func(*api.Stmt) {}}
	cols := []piece{
		{" *", func(*api.Stmt) {}},
		{" COUNT", func(s *api.Stmt) { s.Count = true }},
		{" a", func(s *api.Stmt) { s.Cols = []string{"a"} }},
		{" b.c.d", func(s *api.Stmt) { s.Cols = []string{"b.c.d"} }},
		{" b, a . b, b", func(s *api.Stmt) { s.Cols = []string{"b", "a.b", "b"} }},
	}
	from := []piece{
		{" FROM t", func(s *api.Stmt) { s.Table = "t" }},
		{" FROM HISTORY (u)", func(s *api.Stmt) { s.Table, s.History = "u", true }},
	}
	where := []piece{
		none,
		{" WHERE a", func(s *api.Stmt) { s.Where = path("a") }},
		{" WHERE a.b = 1 IS NULL", func(s *api.Stmt) { s.Where = isNull(bin(path("a.b"), "=", num(1))) }},
	}
	order := []piece{
		none,
		{" ORDER BY a", func(s *api.Stmt) { s.Order = "a" }},
		{" ORDER BY a.b\n.c", func(s *api.Stmt) { s.Order = "a.b.c" }},
		{" ORDER BY a DESC", func(s *api.Stmt) { s.Order, s.Desc = "a", true }},
	}
	limit := []piece{
		none,
		{" LIMIT 0", func(s *api.Stmt) { s.Limit = 0 }},
		{" LIMIT 5", func(s *api.Stmt) { s.Limit = 5 }},
	}
	for _, c := range cols {
		for _, f := range from {
			for _, w := range where {
				for _, o := range order {
					for _, l := range limit {
						text := "SELECT"
						want := api.Stmt{Kind: 6, Limit: -1}
						for _, x := range []piece{c, f, w, o, l} {
							text += x.text
							x.lay(&want)
						}
						parsed(t, text, want)
					}
				}
			}
		}
	}
}

// Promise 12.1: a SELECT whose words stand elsewhere, or are too few, or too many.
func TestSelectWrong(t *testing.T) {
	for _, s := range []string{
		"SELECT |FROM t",
		"SELECT *|, a FROM t",
		"SELECT * |a FROM t",
		"SELECT * |* FROM t",
		"SELECT a, |* FROM t",
		"SELECT a, |COUNT FROM t",
		"SELECT COUNT|, a FROM t",
		"SELECT COUNT |(a) FROM t",
		"SELECT COUNT |* FROM t",
		"SELECT a |b FROM t",
		"SELECT a,|, b FROM t",
		"SELECT a, |FROM t",
		"SELECT |, a FROM t",
		"SELECT a.|.b FROM t",
		"SELECT a.|FROM t",
		"SELECT |.a FROM t",
		"SELECT a.|1 FROM t",
		"SELECT a.|'b' FROM t",
		"SELECT a.|* FROM t",
		"SELECT a.|NULL FROM t",
		"SELECT a.b|(c) FROM t",
		"SELECT |1 FROM t",
		"SELECT |'a' FROM t",
		"SELECT |x'00' FROM t",
		"SELECT |-a FROM t",
		"SELECT |(a) FROM t",
		"SELECT |[a] FROM t",
		"SELECT |{} FROM t",
		"SELECT a |+ b FROM t",
		"SELECT a |= b FROM t",
		"SELECT |NOT a FROM t",
		"SELECT |NULL FROM t",
		"SELECT * |t",
		"SELECT * |WHERE a",
		"SELECT * FROM |",
		"SELECT * FROM |WHERE a",
		"SELECT * FROM |(t)",
		"SELECT * FROM t|.u",
		"SELECT * FROM t|, u",
		"SELECT * FROM t |u",
		"SELECT * FROM |'t'",
		"SELECT * FROM HISTORY |t",
		"SELECT * FROM HISTORY |[t]",
		"SELECT * FROM HISTORY (|)",
		"SELECT * FROM HISTORY (t|.u)",
		"SELECT * FROM HISTORY (t|, u)",
		"SELECT * FROM HISTORY (t|",
		"SELECT * FROM HISTORY (|(t))",
		"SELECT * FROM HISTORY (t)|)",
		"SELECT * FROM HISTORY |HISTORY (t)",
		"SELECT * FROM HISTORY (|HISTORY (t))",
		"SELECT * FROM t |(u)",
		"SELECT * FROM t WHERE |ORDER BY a",
		"SELECT * FROM t WHERE a |WHERE b",
		"SELECT * FROM t WHERE a|, b",
		"SELECT * FROM t ORDER |a",
		"SELECT * FROM t |BY a",
		"SELECT * FROM t ORDER BY |",
		"SELECT * FROM t ORDER BY |DESC",
		"SELECT * FROM t ORDER BY |1",
		"SELECT * FROM t ORDER BY |'a'",
		"SELECT * FROM t ORDER BY |(a)",
		"SELECT * FROM t ORDER BY |-a",
		"SELECT * FROM t ORDER BY a|, b",
		"SELECT * FROM t ORDER BY a |+ b",
		"SELECT * FROM t ORDER BY a |b",
		"SELECT * FROM t ORDER BY a.|DESC",
		"SELECT * FROM t ORDER BY a DESC |DESC",
		"SELECT * FROM t ORDER BY a DESC|, b",
		"SELECT * FROM t ORDER BY a |ORDER BY b",
		"SELECT * FROM t |DESC",
		"SELECT * FROM t WHERE a |DESC",
		"SELECT * FROM t LIMIT 1 |DESC",
		"SELECT * FROM t LIMIT 1 |WHERE a",
		"SELECT * FROM t LIMIT 1 |ORDER BY a",
		"SELECT * FROM t LIMIT 1 |LIMIT 1",
		"SELECT * FROM t ORDER BY a |WHERE b",
		"SELECT * FROM t ORDER BY a DESC |WHERE b",
		"SELECT * |WHERE a FROM t",
		"SELECT |SELECT * FROM t",
		"SELECT * FROM |SELECT * FROM t",
		"SELECT * FROM t WHERE (|SELECT * FROM t)",
		"SELECT * |SET a = 1",
	} {
		wrong(t, s)
	}
}

// Promise 12.1: LIMIT's number is a number's word that is an int.
func TestLimit(t *testing.T) {
	for _, n := range []int{0, 1, 9, 10, 65536, 1<<31 - 1, int(^uint(0) >> 1)} {
		text := strconv.Itoa(n)
		parsed(t, "SELECT * FROM t LIMIT "+text, api.Stmt{Kind: 6, Table: "t", Limit: n})
		parsed(t, "SELECT * FROM t WHERE a LIMIT "+text+"\n", api.Stmt{Kind: 6, Table: "t", Where: path("a"), Limit: n})
	}
	for _, s := range []string{"|-1", "|+1", "|'1'", "|''", "|x'01'", "|x'31'", "|a", "|a1", "|NULL", "|TRUE", "|COUNT", "|(1)", "|[1]", "|*", "|", "|LIMIT 1", "1 |+ 1", "1 |1", "1|, 1", "1|.0", "1|.a", "1 |= 1", "1|)"} {
		wrong(t, "SELECT * FROM t LIMIT "+s)
		wrong(t, "SELECT * FROM t ORDER BY a DESC LIMIT "+s)
	}
	// Greater ones, and those with a nought ahead, are no words at all.
	refused(t, "SELECT * FROM t LIMIT 9223372036854775808", 22, 110)
	refused(t, "SELECT * FROM t LIMIT 00", 22, 110)
}

// Promise 12.1: blanks stand between words, many or none, and nowhere matter.
func TestBlanks(t *testing.T) {
	want := api.Stmt{Kind: 6, Cols: []string{"a.b", "c"}, Table: "t", History: true,
		Where: bin(path("a.b"), "=", list(num(1), neg(str("x")))), Order: "d.e", Desc: true, Limit: 3}
	parsed(t, "SELECT a.b,c FROM HISTORY(t)WHERE a.b=[1,-'x']ORDER BY d.e DESC LIMIT 3", want)
	parsed(t, "\t\nSELECT  a\n.\tb ,  c\nFROM HISTORY\n(\tt )  WHERE a . b\n=\t[ 1 ,- 'x' ] ORDER\nBY d . e DESC\tLIMIT\n3\n\n", want)
	parsed(t, "DELETE FROM t WHERE 1OR 2AND'a'", api.Stmt{Kind: 5, Table: "t", Where: bin(num(1), "OR", bin(num(2), "AND", str("a"))), Limit: -1})
}

// Promise 12.1: a statement that breaks off ahead of one of its words is told at its end, but where it is whole by then.
func TestBrokenOff(t *testing.T) {
	whole := strings.Split(`INSERT INTO t VALUE a
UPDATE t SET a = b
UPDATE t SET a = b.c
UPDATE t SET a = b.c + 1
UPDATE t SET a = b.c + 1, d = FALSE
UPDATE t SET a = b.c + 1, d = FALSE, e = {f: -1}
UPDATE t SET a = b.c + 1, d = FALSE, e = {f: -1} WHERE g
UPDATE t SET a = b.c + 1, d = FALSE, e = {f: -1} WHERE g IS NOT NULL
DELETE FROM t
DELETE FROM t WHERE NOT (a = 1 OR b <> -(2 - c) * 3)
SELECT a, b.c.d, e FROM t
SELECT a, b.c.d, e FROM t WHERE a
SELECT a, b.c.d, e FROM t WHERE a >= 1
SELECT a, b.c.d, e FROM t WHERE a >= 1 AND b
SELECT a, b.c.d, e FROM t WHERE a >= 1 AND b.c
SELECT a, b.c.d, e FROM t WHERE a >= 1 AND b.c < 'x'
SELECT a, b.c.d, e FROM t WHERE a >= 1 AND b.c < 'x' OR NOT d
SELECT a, b.c.d, e FROM t WHERE a >= 1 AND b.c < 'x' OR NOT d ORDER BY a
SELECT a, b.c.d, e FROM t WHERE a >= 1 AND b.c < 'x' OR NOT d ORDER BY a.b
SELECT a, b.c.d, e FROM t WHERE a >= 1 AND b.c < 'x' OR NOT d ORDER BY a.b DESC
SELECT a FROM HISTORY (t)
SELECT a FROM HISTORY (t) WHERE [a, 1 + 2]
SELECT a FROM HISTORY (t) WHERE [a, 1 + 2] = []
SELECT a FROM HISTORY (t) WHERE [a, 1 + 2] = [] ORDER BY a`, "\n")
	found := map[string]bool{}
	for _, s := range samples {
		words, _, _ := lex.Words(s)
		for _, w := range words[:len(words)-1] {
			text := strings.TrimSpace(s[:w.At])
			for _, blanks := range []string{"", " ", "\n\t "} {
				if !slices.Contains(whole, text) {
					refused(t, text+blanks, len(text+blanks), 120)
				} else if _, at, e := Parse(text + blanks); e != api.OK || at != 0 {
					t.Errorf("Parse(%q) is told %d at %d", text+blanks, e, at)
				}
			}
			found[text] = true
		}
	}
	for _, s := range whole {
		if !found[s] {
			t.Errorf("%q was not tried", s)
		}
	}
}

// Promise 12.1: no words at all.
func TestNothing(t *testing.T) {
	for _, s := range []string{"", " ", "\n", "\t", " \n\t "} {
		refused(t, s, len(s), 120)
	}
}

// Promise 12.1: a statement begins with the key of its kind, and with no other word.
func TestFirstWord(t *testing.T) {
	first := []string{"CREATE", "INSERT", "UPDATE", "DELETE", "SELECT"}
	others := []string{"a", "select", "1", "'SELECT'", "x'00'", "(SELECT * FROM t)", "BEGIN", "DROP TABLE t"}
	for _, k := range append(append(strings.Fields(allKeys), strings.Fields(allSigns)...), others...) {
		if slices.Contains(first, k) {
			refused(t, k, len(k), 120)
			continue
		}
		wrong(t, "|"+k)
		wrong(t, " |"+k+" TABLE t")
	}
}

// Promise 12.1: behind a statement nothing may stand, not even another statement.
func TestBehind(t *testing.T) {
	for _, s := range samples {
		for _, more := range []string{"a", "1", "'a'", "x'00'", ")", "]", "}", ",", ":", "(", "[", "{", "VALUE 1", "SET a = 1", "FROM t", "TABLE t", "TRUE", "NULL", "NOT a", "CREATE TABLE t", "SELECT * FROM t", "COUNT", "BY a"} {
			// SET's last expression may be followed by another field.
			if more == "," && s == "UPDATE t SET a = 1" {
				continue
			}
			wrong(t, s+" |"+more)
			wrong(t, s+"\n\t|"+more+" a b c")
		}
	}
	wrong(t, "CREATE TABLE t |CREATE TABLE t CREATE")
}

// Promise 12.1: names must stand where a table, a field, a path, a part's name is: no key, and no word of another kind.
func TestNamesAlone(t *testing.T) {
	places := []string{
		"CREATE TABLE |%s",
		"CREATE INDEX ON |%s (f)",
		"CREATE INDEX ON t (|%s)",
		"INSERT INTO |%s VALUE {}",
		"INSERT INTO t VALUE {a: 1, |%s: 2}",
		"UPDATE |%s SET a = 1",
		"UPDATE t SET |%s = 1",
		"UPDATE t SET a = 1, |%s = 1",
		"DELETE FROM |%s",
		"SELECT a, |%s FROM t",
		"SELECT a.|%s FROM t",
		"SELECT a.b.|%s, c FROM t",
		"SELECT * FROM HISTORY (|%s)",
		"SELECT * FROM t WHERE a.|%s",
		"SELECT * FROM t ORDER BY |%s",
		"SELECT * FROM t ORDER BY a.|%s",
	}
	for _, p := range places {
		for _, k := range append(strings.Fields(allKeys), "1", "'a'", "x'00'", "+", "(", "[", "{", ".", ",") {
			wrong(t, fmt.Sprintf(p, k))
		}
		for _, name := range []string{"a", "_", "select", "Null", "VALUES", "x", "a0123456789_abcd"} {
			s := strings.Replace(fmt.Sprintf(p, name), "|", "", 1)
			if _, at, e := Parse(s); e != api.OK || at != 0 {
				t.Errorf("Parse(%q) is told %d at %d", s, e, at)
			}
		}
	}
	for _, k := range strings.Fields(allKeys) {
		if k != "COUNT" {
			wrong(t, "SELECT |"+k+" FROM t")
		}
		if k != "HISTORY" {
			wrong(t, "SELECT * FROM |"+k+" WHERE a")
		}
	}
}

// Promise 12.1: keys and signs that must stand are words of their kind, and not texts or names that say the same.
func TestKindsOfWords(t *testing.T) {
	wrong(t, "INSERT |'INTO' t VALUE 1")
	wrong(t, "INSERT |into t VALUE 1")
	wrong(t, "CREATE INDEX ON t |'(' f)")
	wrong(t, "CREATE INDEX ON t |x'28' f)")
	wrong(t, "UPDATE t SET a |'=' 1")
	wrong(t, "DELETE FROM t |'WHERE' a")
	wrong(t, "DELETE FROM t WHERE a |'+' b")
	wrong(t, "DELETE FROM t WHERE a |x'2b' b")
	wrong(t, "DELETE FROM t WHERE a |'AND' b")
	wrong(t, "DELETE FROM t WHERE a |and b")
	wrong(t, "DELETE FROM t WHERE a |'IS' NULL")
	wrong(t, "DELETE FROM t WHERE a IS |'NULL'")
	wrong(t, "DELETE FROM t WHERE a IS |null")
	wrong(t, "DELETE FROM t WHERE a IS NOT |'NULL'")
	wrong(t, "DELETE FROM t WHERE not |a")
	wrong(t, "DELETE FROM t WHERE 'NOT' |a")
	wrong(t, "DELETE FROM t WHERE [1 |',' 2]")
	wrong(t, "DELETE FROM t WHERE [1|';' ]")
	wrong(t, "DELETE FROM t WHERE '(' |1 ')'")
	wrong(t, "DELETE FROM t WHERE '-' |1")
	wrong(t, "SELECT |'*' FROM t")
	wrong(t, "SELECT a |'.' b FROM t")
	means(t, "null", path("null"))
	means(t, "'NULL'", str("NULL"))
	means(t, "'*' = x'2a'", bin(str("*"), "=", hexa("*")))
}

// Promise 12.1: lex's errors, and their places, are told ahead of all others.
func TestLex(t *testing.T) {
	refused(t, "?", 0, 110)
	refused(t, "SELECT * FROM t WHERE a = ?", 26, 110)
	refused(t, "SELECT * FROM t WHERE a = 'x", 26, 110)
	refused(t, "SELECT * FROM t WHERE a = 01", 26, 110)
	refused(t, "SELECT * FROM t WHERE a = x'0'", 26, 110)
	refused(t, "SELECT * FROM a0123456789_abcde", 14, 110)
	refused(t, "SELECT SELECT SELECT ?", 21, 110)
	refused(t, "= = = ;", 6, 110)
	refused(t, "DELETE FROM t;", 13, 110)
	refused(t, wherever+strings.Repeat("(", 99)+" /", len(wherever)+100, 110)
	refused(t, wherever+"["+strings.Repeat("1,", 99)+"!", len(wherever)+199, 110)
	refused(t, wherever+strings.Repeat("1+", 250)+"\"a\"", len(wherever)+500, 110)
	whole := "DELETE FROM t"
	parsed(t, whole+strings.Repeat(" ", api.MaxStmt-len(whole)), api.Stmt{Kind: 5, Table: "t", Limit: -1})
	refused(t, whole+strings.Repeat(" ", api.MaxStmt-len(whole)+1), 2000, 3)
	refused(t, strings.Repeat("?", 2000), 0, 110)
	refused(t, strings.Repeat("?", 2001), 2000, 3)
	refused(t, strings.Repeat("= ", 1000), 0, 120)
	refused(t, strings.Repeat("= ", 1001), 2000, 3)
}

// ends asks for a statement, or for a named error with its place, and nothing else.
func ends(t *testing.T, s string) {
	t.Helper()
	x, at, e := Parse(s)
	good := at >= 0 && at <= len(s) && reflect.DeepEqual(bareStmt(x), api.Stmt{})
	if e == api.OK {
		good = at == 0 && x.Kind >= 1 && x.Kind <= 6 && x.Table != ""
	}
	if !good || e != 0 && e != 3 && e != 110 && e != 120 {
		t.Errorf("Parse(%q) = %v, %d, %d", s, x, at, e)
	}
}

// T5: whatever is handed in, there is an answer, or a named error with its place.
func TestNamedErrors(t *testing.T) {
	for _, s := range []string{
		strings.Repeat("(", 2000), strings.Repeat("[", 2000), strings.Repeat("{a:", 600), strings.Repeat("-", 2000),
		strings.Repeat("NOT ", 500), strings.Repeat("a.", 1000), strings.Repeat("1+", 1000), strings.Repeat("a,", 1000),
		strings.Repeat("a IS NULL ", 200), strings.Repeat("\x00", 50), strings.Repeat("''", 1000), strings.Repeat(")", 2000),
	} {
		for _, ahead := range []string{"", wherever, "SELECT ", "SELECT * FROM t ORDER BY ", "INSERT INTO t VALUE ", "UPDATE t SET a = "} {
			for _, text := range []string{ahead + s, (ahead + s)[:min(1900, len(s))]} {
				ends(t, text)
			}
		}
	}
}

// lists goes over all lists of an expression that are not empty, by where their first item stands.
func lists(x *api.Expr, tell func(any)) {
	if len(x.Kids) > 0 {
		tell(&x.Kids[0])
	}
	if len(x.Names) > 0 {
		tell(&x.Names[0])
	}
	for i := range x.Kids {
		lists(&x.Kids[i], tell)
	}
}

// R2: an answer is the caller's own: no two lists of it are one, and what is done to it changes no other answer.
func TestOwn(t *testing.T) {
	for _, s := range samples {
		a, _, _ := Parse(s)
		b, _, _ := Parse(s)
		seen := map[any]bool{}
		tell := func(p any) {
			if seen[p] {
				t.Errorf("Parse(%q): two lists are one", s)
			}
			seen[p] = true
		}
		for _, x := range []*api.Stmt{&a, &b} {
			lists(&x.Value, tell)
			lists(&x.Where, tell)
			if len(x.Exprs) > 0 {
				tell(&x.Exprs[0])
				tell(&x.Names[0])
			}
			for i := range x.Exprs {
				lists(&x.Exprs[i], tell)
			}
			if len(x.Cols) > 0 {
				tell(&x.Cols[0])
			}
		}
		if !reflect.DeepEqual(a, b) {
			t.Errorf("Parse(%q) is %v, and then %v", s, a, b)
		}
		if len(a.Where.Kids) > 0 {
			a.Where.Kids[0] = null()
			if reflect.DeepEqual(a, b) {
				t.Errorf("Parse(%q): one answer is the other", s)
			}
		}
		parsed(t, s, b)
	}
}
