package syntax

import (
	"strconv"
	"strings"
	"testing"

	"parchment/api"
)

// several is a text many times, with something between.
func several(s string, n int, with string) string {
	l := make([]string, n)
	for i := range l {
		l[i] = s
	}
	return strings.Join(l, with)
}

// manyOf is an expression many times.
func manyOf(x api.Expr, n int) []api.Expr {
	l := make([]api.Expr, n)
	for i := range l {
		l[i] = x
	}
	return l
}

func manyNames(n int) []string {
	l := make([]string, n)
	for i := range l {
		l[i] = "a" + strconv.Itoa(i)
	}
	return l
}

// Promise 12.1: a list has at most MaxParts parts; one more is told where it begins.
func TestListParts(t *testing.T) {
	for _, n := range []int{1, 2, 31, 32} {
		means(t, "["+several("a", n, ", ")+"]", list(manyOf(path("a"), n)...))
		means(t, "["+several("[]", n, ",")+"]", list(manyOf(list(), n)...))
	}
	for _, part := range []string{"a", "1", "'a'", "a.b", "-1", "(1)", "[]", "{}", "NOT a", "a OR b"} {
		full := wherever + "[" + several(part, 32, ", ")
		tooMuch(t, full+", |"+part+"]")
		tooMuch(t, full+" ,\n|"+part+", "+part+"]")
		tooMuch(t, full+", |"+part)
		tooMuch(t, full+", |"+part+" FROM")
		// No other word would be right there.
		tooMuch(t, full+", |]")
		tooMuch(t, full+", |")
		tooMuch(t, full+", |, 1]")
		wrong(t, full+"|")
		wrong(t, full+"|)")
		wrong(t, full+" |a]")
	}
	// Each list counts its own.
	inner := "[" + several("1", 32, ",") + "]"
	means(t, "["+several(inner, 3, ",")+"]", list(manyOf(list(manyOf(num(1), 32)...), 3)...))
	tooMuch(t, wherever+"["+inner+", ["+several("1", 32, ",")+",|1]]")
	tooMuch(t, wherever+inner+" = ["+several("1", 32, ",")+",|1]")
}

// Promise 12.1: a struct likewise.
func TestStructParts(t *testing.T) {
	for _, n := range []int{1, 2, 31, 32} {
		names := manyNames(n)
		means(t, "{"+strings.Join(names, ": 1, ")+": 1}", fields(strings.Join(names, " "), manyOf(num(1), n)...))
		means(t, "{"+several("a:1", n, ",")+"}", fields(several("a", n, " "), manyOf(num(1), n)...))
	}
	full := wherever + "{" + several("a: 1", 32, ", ")
	tooMuch(t, full+", |a: 1}")
	tooMuch(t, full+",\n\t|a: 1, a: 1}")
	tooMuch(t, full+", |a: 1")
	tooMuch(t, full+", |a")
	tooMuch(t, full+", |a 1}")
	tooMuch(t, full+", |}")
	tooMuch(t, full+", |")
	tooMuch(t, full+", |1: 1}")
	wrong(t, full+"|")
	wrong(t, full+"|]")
	wrong(t, full+" |a: 1}")
	inner := "{" + several("a: 1", 32, ", ") + "}"
	means(t, inner+" = "+inner, bin(fields(several("a", 32, " "), manyOf(num(1), 32)...), "=", fields(several("a", 32, " "), manyOf(num(1), 32)...)))
	tooMuch(t, wherever+"[{}, {b: {"+several("a: 1", 32, ", ")+", |a: 1}}]")
}

// Promise 12.1: fields of SET likewise.
func TestSetFields(t *testing.T) {
	for _, n := range []int{1, 2, 31, 32} {
		want := api.Stmt{Kind: 4, Table: "t", Names: manyNames(n), Exprs: manyOf(str("x"), n), Limit: -1}
		text := "UPDATE t SET " + strings.Join(manyNames(n), " = 'x', ") + " = 'x'"
		parsed(t, text, want)
		want.Where = path("a")
		parsed(t, text+" WHERE a", want)
	}
	full := "UPDATE t SET " + several("a = 1", 32, ", ")
	tooMuch(t, full+", |a = 1")
	tooMuch(t, full+",\n|b = 1, c = 1 WHERE a")
	tooMuch(t, full+", |a")
	tooMuch(t, full+", |a: 1")
	tooMuch(t, full+", |WHERE a")
	tooMuch(t, full+",|")
	wrong(t, full+" |a = 1")
	wrong(t, full+" |LIMIT 1")
	wrong(t, full+" WHERE a|, a = 1")
}

// Promise 12.1: columns likewise.
func TestColumns(t *testing.T) {
	for _, n := range []int{1, 2, 31, 32} {
		parsed(t, "SELECT "+strings.Join(manyNames(n), ", ")+" FROM t", api.Stmt{Kind: 6, Table: "t", Cols: manyNames(n), Limit: -1})
		parsed(t, "SELECT "+several("a.b", n, ",")+" FROM t", api.Stmt{Kind: 6, Table: "t", Cols: strings.Fields(several("a.b", n, " ")), Limit: -1})
	}
	full := "SELECT " + several("a.b", 32, ", ")
	tooMuch(t, full+", |a FROM t")
	tooMuch(t, full+",\n|a.b, c FROM t")
	tooMuch(t, full+", |a")
	tooMuch(t, full+", |a.1 FROM t")
	tooMuch(t, full+", |FROM t")
	tooMuch(t, full+", |* FROM t")
	tooMuch(t, full+",|")
	wrong(t, full+" |t")
	wrong(t, full+".|FROM t")
	// A path's names are not counted.
	long := strings.Repeat("a.", 100) + "a"
	parsed(t, "SELECT "+long+" FROM t ORDER BY "+long, api.Stmt{Kind: 6, Table: "t", Cols: []string{long}, Order: long, Limit: -1})
}

// wrapped is a text within others, so many times.
func wrapped(open string, n int, inner, close string) string {
	return strings.Repeat(open, n) + inner + strings.Repeat(close, n)
}

// Promise 12.1: MaxNest of each kind within one another, the innermost one counted, and one more, that is told where it begins.
func TestNest(t *testing.T) {
	for _, k := range []struct {
		open, close string
		around      func(api.Expr) api.Expr
	}{
		{"NOT ", "", not},
		{"-", "", neg},
		{"- ", "", neg},
		{"(", ")", func(x api.Expr) api.Expr { return x }},
		{"[", "]", func(x api.Expr) api.Expr { return list(x) }},
		{"[ ", " ]", func(x api.Expr) api.Expr { return list(x) }},
		{"{a: ", "}", func(x api.Expr) api.Expr { return fields("a", x) }},
	} {
		for _, inner := range []struct {
			text string
			x    api.Expr
		}{{"1", num(1)}, {"a.b.c", path("a.b.c")}, {"'a'", str("a")}, {"x'00'", hexa("\x00")}, {"NULL", null()}, {"TRUE", truth(true)}, {"[]", list()}, {"{}", fields("")}} {
			want := inner.x
			for n := range 24 {
				means(t, wrapped(k.open, n, inner.text, k.close), want)
				want = k.around(want)
			}
			tooMuch(t, wherever+wrapped(k.open, 24, "|"+inner.text, k.close))
			tooMuch(t, wherever+strings.Repeat(k.open, 24)+"|"+inner.text)
			// The one that is too many is of the kind itself.
			for _, n := range []int{1, 2, 100} {
				tooMuch(t, wherever+strings.Repeat(k.open, 24)+"|"+wrapped(k.open, n, inner.text, k.close))
			}
		}
		wrong(t, wherever+strings.Repeat(k.open, 23)+"|")
		wrong(t, wherever+strings.Repeat(k.open, 23)+"|FROM")
		// No other word would be right there.
		tooMuch(t, wherever+strings.Repeat(k.open, 24)+"|FROM")
	}
	// An empty list has nothing within it.
	want := list()
	for range 23 {
		want = list(want)
	}
	means(t, strings.Repeat("[", 24)+strings.Repeat("]", 24), want)
	tooMuch(t, wherever+strings.Repeat("[", 24)+"|["+strings.Repeat("]", 25))
}

// Promise 12.1: kinds within one another count together.
func TestNestMixed(t *testing.T) {
	ahead, behind := strings.Repeat("(NOT [{a: -", 4), strings.Repeat("}])", 4) // 20
	around := func(x api.Expr) api.Expr {
		for range 4 {
			x = not(list(fields("a", neg(x))))
		}
		return x
	}
	means(t, ahead+"1"+behind, around(num(1)))
	means(t, ahead+"-(-1)"+behind, around(neg(neg(num(1)))))
	means(t, ahead+"[[[1]]]"+behind, around(list(list(list(num(1))))))
	means(t, ahead+"(NOT -1)"+behind, around(not(neg(num(1)))))
	for _, inner := range []string{
		"-(-(|1))", "((((|1))))", "[[[[|1]]]]", "[[[[|[", "{b: {b: {b: {b: |1}}}}", "{b: -[(|2)]}", "(NOT -(|1))", "(NOT NOT NOT |1)", "(NOT NOT NOT |NOT 1)", "(NOT - - |- 1)", "[1, (1), [[[|1]]]]",
	} {
		tooMuch(t, wherever+ahead+inner+behind)
	}
	wrong(t, wherever+ahead+"|NOT 1"+behind)
}

// Promise 12.1: what is ended counts no more, nor do sides that stand beside one another.
func TestNestGoesBack(t *testing.T) {
	deep := func(n int) string { return wrapped("(", n, "1", ")") }
	for _, s := range []string{
		several(deep(23), 20, " + "),
		several(wrapped("[", 23, "1", "]"), 2, " = "),
		several("NOT "+deep(22), 20, " OR "),
		several("NOT NOT a", 20, " AND "),
		several("- - a", 20, " * "),
		several("-"+deep(22), 20, "-"),
		"[" + several(deep(22), 20, ", ") + "]",
		"{" + several("a: "+deep(22), 20, ", ") + "}",
		several("a", 90, " + "),
		several("a IS NOT NULL", 45, " AND "),
		wrapped("(", 22, "-1 + -1 * -1", ")") + " - " + wrapped("(", 22, "NOT a OR NOT b AND NOT 1", ")"),
	} {
		if _, at, e := Parse(wherever + s); e != api.OK || at != 0 {
			t.Errorf("Parse(%q) is told %d at %d", wherever+s, e, at)
		}
	}
	tooMuch(t, wherever+several(deep(23), 20, " + ")+" + "+wrapped("(", 24, "|1", ")"))
	tooMuch(t, wherever+wrapped("(", 22, "-1 + -1 * --|1", ")"))
	tooMuch(t, wherever+wrapped("(", 22, "NOT a OR NOT -|b", ")"))
	tooMuch(t, wherever+wrapped("(", 22, "NOT a OR NOT NOT |b", ")"))
	tooMuch(t, wherever+wrapped("(", 23, "a OR NOT |b", ")"))
	tooMuch(t, wherever+wrapped("(", 23, "a OR NOT |NOT b", ")"))
	tooMuch(t, "UPDATE t SET a = "+deep(23)+", b = "+wrapped("(", 24, "|1", ")")+" WHERE a")
	tooMuch(t, "UPDATE t SET a = "+deep(23)+" WHERE "+wrapped("[", 24, "|1", "]"))
}

// summed is a sum of so many ones, as a text and as an expression: of 2n - 1 expressions.
func summed(n int) (string, api.Expr) {
	x := num(1)
	for range n - 1 {
		x = bin(x, "+", num(1))
	}
	return several("1", n, "+"), x
}

// Promise 12.1: MaxExprs expressions of a statement, and one more, that is told behind its last word.
func TestExprs(t *testing.T) {
	text, x := summed(100)
	means := func(s string, want api.Expr) {
		t.Helper()
		parsed(t, wherever+s, api.Stmt{Kind: 5, Table: "t", Where: want, Limit: -1})
		parsed(t, "INSERT INTO t VALUE "+s, api.Stmt{Kind: 3, Table: "t", Value: want, Limit: -1})
	}
	// 199, and one more; brackets are none.
	means(text, x)
	means("("+text+")", x)
	means("(("+text+"))", x)
	means(strings.Replace(text, "1", "(1)", 50), x)
	means("["+text+"]", list(x))
	means("{a: "+text+"}", fields("a", x))
	means("NOT "+text, not(x))
	means("-("+text+")", neg(x))
	means(text+" IS NULL", isNull(x))
	means("[]="+several("[]", 99, "+"), bin(list(), "=", sumOf(list(), 99)))
	for _, s := range []string{
		text + "+1|", text + "+1|+1", text + "+a.b |+ 1", text + "*1|", text + "*1*1|",
		text + " = 1|", text + " = 1 |= 1", text + " AND 1 |OR 1", text + " OR NOT 1|", text + " IS NOT NULL|", text + " IS NOT NULL |IS NULL",
		text + "+-1|", text + "+'x'|", text + "+NULL|", text + "+a.b.c|",
		text + "+(1)|", text + "+((1)) |+ 1", text + "+[]|", text + "+{} |", text + "+[1]|", text + "+[1, 1|, 1]", text + "+[1, 1|]", text + "+{a: 1}|", text + "+{a: 1, b: 1|, c: 1}",
		"(" + text + ")+1|", "(" + text + "+1|)", "-(" + text + "+1|)", "--(" + text + ")|", "-(-(" + text + "))|", "-[" + text + "]|",
		"[[" + text + "]]|", "[{a: " + text + "}]|", "{a: [" + text + "]}|", "[" + text + ", 1]|", "[" + text + ", 1] |1", "[" + text + ", 1, 1|]", "[" + text + ", 1, 1|", "[" + text + ", 1, 1 |FROM",
		"{a: " + text + ", b: 1}|", "{a: " + text + ", b: 1, c: 1|}",
		"NOT NOT " + text + "|", "NOT [" + text + "]|", "NOT (" + text + " IS NULL)|", "NOT " + text + " IS NULL|", "[" + text + "] IS NULL|",
	} {
		for _, ahead := range []string{wherever, "INSERT INTO t VALUE ", "UPDATE t SET a = ", "SELECT * FROM t WHERE "} {
			tooMuch(t, ahead+s)
		}
	}
	// One of which the words are not all there is not whole.
	for _, s := range []string{
		text + "+|", text + "+|)", text + " IS|", text + " IS NOT |1", "[" + text + ", |", "[" + text + ", |]", "[" + text + "|)", text + "+a.|", text + "+a.|1", "[" + text + ", a.b.|1]", "[" + text + ", 1|)",
	} {
		wrong(t, wherever+s)
	}
}

func sumOf(x api.Expr, n int) api.Expr {
	out := x
	for range n - 1 {
		out = bin(out, "+", x)
	}
	return out
}

// Promise 12.1: all expressions of a statement count together, those of SET and of WHERE; columns and ORDER BY's path are none.
func TestExprsTogether(t *testing.T) {
	half, x := summed(50) // 99
	parsed(t, "UPDATE t SET a = "+half+", b = "+half+" WHERE -c", api.Stmt{Kind: 4, Table: "t", Names: []string{"a", "b"}, Exprs: []api.Expr{x, x}, Where: neg(path("c")), Limit: -1})
	tooMuch(t, "UPDATE t SET a = "+half+", b = "+half+" WHERE --c|")
	tooMuch(t, "UPDATE t SET a = "+half+", b = "+half+" WHERE c = 1|")
	tooMuch(t, "UPDATE t SET a = "+half+", b = "+half+", c = 1, d = 2, e = 3|, f = 4 WHERE c")
	tooMuch(t, "UPDATE t SET a = "+half+", b = "+half+", c = 1, d = 2, e = 3 |WHERE")
	all := "[" + several("1", 32, ",") + "]" // 33
	six := several(all, 6, ",")              // 198
	parsed(t, "INSERT INTO t VALUE [["+six+"]]", api.Stmt{Kind: 3, Table: "t", Value: list(list(manyOf(list(manyOf(num(1), 32)...), 6)...)), Limit: -1})
	tooMuch(t, "INSERT INTO t VALUE [[["+six+"]]]|")
	tooMuch(t, "INSERT INTO t VALUE ["+six+", 1, 1, 1|, 1]")
	tooMuch(t, "INSERT INTO t VALUE [["+six+", 1, 1, 1|, 1]]")
	text, y := summed(100)
	cols := several("a.b", 32, ", ")
	parsed(t, "SELECT "+cols+" FROM t WHERE -("+text+") ORDER BY a.b.c LIMIT 1",
		api.Stmt{Kind: 6, Table: "t", Cols: strings.Split(cols, ", "), Where: neg(y), Order: "a.b.c", Limit: 1})
	tooMuch(t, "SELECT "+cols+" FROM t WHERE -(-("+text+")) |ORDER BY a.b.c LIMIT 1")
}

// Promise 12.1: of several errors the first one on the way is told.
func TestFirstError(t *testing.T) {
	text, _ := summed(100)
	deep := strings.Repeat("(", 24)
	full := "[" + several("a", 32, ",")
	wrong(t, wherever+"a |b "+deep+"1")
	wrong(t, wherever+"(a |b + "+deep+"1")
	wrong(t, wherever+"|= "+full+",1")
	wrong(t, wherever+"[a |b, "+several("a", 40, ",")+"]")
	wrong(t, wherever+"1 |1 + "+text+"+1")
	wrong(t, "DELETE FROM |WHERE "+deep+"1")
	wrong(t, "SELECT a |b, "+several("a", 40, ",")+" FROM t")
	tooMuch(t, wherever+deep+"|1 b b")
	tooMuch(t, wherever+deep+"|1+"+text+"+1")
	tooMuch(t, wherever+deep+"|"+full+",1")
	tooMuch(t, wherever+full+",|a b + "+deep+"1")
	tooMuch(t, wherever+full+",|"+deep+"(1")
	tooMuch(t, wherever+full+",|1+"+text)
	tooMuch(t, wherever+text+"+1|+"+deep+"1")
	tooMuch(t, wherever+text+"+1|+"+full+",1")
	tooMuch(t, wherever+text+"+1|)")
	tooMuch(t, wherever+text+"+1 |b")
	tooMuch(t, "SELECT "+several("a", 32, ",")+",|a b FROM")
}
