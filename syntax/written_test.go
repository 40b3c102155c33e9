package syntax

import (
	"fmt"
	"math/rand"
	"reflect"
	"strconv"
	"strings"
	"testing"

	"parchment/api"
)

// writer writes statements, and tells the first limit that is passed on the way, as the chapter counts.
type writer struct {
	r     *rand.Rand
	text  string
	nest  int
	exprs int
	err   api.Errno
	place int
	waits bool // the place is that of the next word, which is not written yet
}

// word writes a word, behind blanks where it needs them, or by chance.
func (w *writer) word(s string) {
	const apart = "+-*(){}[],:."
	free := w.text == "" || strings.Contains(apart, s[:1]) || strings.Contains(apart, w.text[len(w.text)-1:])
	if !free || w.r.Intn(4) == 0 {
		w.text += []string{" ", " ", "\n", "\t", "  "}[w.r.Intn(5)]
	}
	w.told()
	w.text += s
}

// told lays down the place that is waited for.
func (w *writer) told() {
	if w.waits {
		w.place, w.waits = len(w.text), false
	}
}

func (w *writer) words(s string) {
	for _, x := range strings.Fields(s) {
		w.word(x)
	}
}

func (w *writer) passed() {
	if w.err == api.OK {
		w.err, w.waits = 3, true
	}
}

func (w *writer) down() {
	if w.nest++; w.nest > 24 {
		w.passed()
	}
}

func (w *writer) up() { w.nest-- }

func (w *writer) whole() {
	if w.exprs++; w.exprs > 200 {
		w.passed()
	}
}

// path writes a path.
func (w *writer) path(s string) {
	for i, n := range strings.Split(s, ".") {
		if i > 0 {
			w.word(".")
		}
		w.word(n)
	}
}

// many writes parts with commas between them.
func (w *writer) many(n int, one func(i int)) {
	for i := range n {
		if i > 0 {
			w.word(",")
		}
		if i == 32 {
			w.passed()
		}
		one(i)
	}
}

// strength is how strongly an expression binds as it is written.
func strength(x api.Expr, asIsNot bool) int {
	switch x.Kind {
	case 4:
		if asIsNot {
			return 3
		}
		return 2
	case 5:
		return 3
	case 6:
		for _, b := range between {
			if b.sign == x.S {
				return b.rank
			}
		}
	}
	return 6
}

// expr writes an expression where one must stand that binds as strongly as least; in brackets, where it does not, or by chance.
func (w *writer) expr(x api.Expr, least int) {
	asIsNot := x.Kind == 4 && x.Kids[0].Kind == 5 && w.r.Intn(2) == 0
	if strength(x, asIsNot) < least || w.r.Intn(25) == 0 {
		w.down()
		w.word("(")
		w.expr(x, 0)
		w.word(")")
		w.up()
		return
	}
	switch {
	case asIsNot:
		w.compared(x.Kids[0].Kids[0])
		w.words("IS NOT NULL")
		w.whole()
		w.whole()
	case x.Kind == 4:
		w.down()
		w.word("NOT")
		w.expr(x.Kids[0], 2)
		w.up()
		w.whole()
	case x.Kind == 5:
		w.compared(x.Kids[0])
		w.words("IS NULL")
		w.whole()
	case x.Kind == 6:
		r := strength(x, false)
		left := r
		if r == 3 {
			left = 4
		}
		w.expr(x.Kids[0], left)
		w.word(x.S)
		w.expr(x.Kids[1], r+1)
		w.whole()
	default:
		w.down()
		w.top(x)
		w.whole()
		w.up()
	}
}

// compared writes what stands ahead of IS: one comparison, or what binds more strongly.
func (w *writer) compared(x api.Expr) {
	if x.Kind == 6 {
		w.expr(x, 3)
		return
	}
	w.expr(x, 4)
}

// top writes one of the strongest.
func (w *writer) top(x api.Expr) {
	switch x.Kind {
	case 1:
		w.word(spoken(x.V))
	case 2:
		w.path(x.S)
	case 3:
		w.word("-")
		w.expr(x.Kids[0], 6)
	case 7:
		w.word("[")
		w.many(len(x.Kids), func(i int) { w.expr(x.Kids[i], 0) })
		w.word("]")
	case 8:
		w.word("{")
		w.many(len(x.Kids), func(i int) {
			w.words(x.Names[i] + " :")
			w.expr(x.Kids[i], 0)
		})
		w.word("}")
	}
}

// spoken is a literal's word.
func spoken(v api.Value) string {
	switch v.Kind {
	case 1:
		return strings.ToUpper(strconv.FormatBool(v.B))
	case 2:
		return strconv.FormatInt(v.N, 10)
	case 3:
		return "'" + strings.ReplaceAll(v.S, "'", "''") + "'"
	case 4:
		return fmt.Sprintf("x'%x'", v.S)
	}
	return "NULL"
}

// stmt writes a statement.
func (w *writer) stmt(s api.Stmt) {
	switch s.Kind {
	case 1:
		w.words("CREATE TABLE " + s.Table)
	case 2:
		w.words("CREATE INDEX ON " + s.Table + " ( " + s.Field + " )")
	case 3:
		w.words("INSERT INTO " + s.Table + " VALUE")
		w.expr(s.Value, 0)
	case 4:
		w.words("UPDATE " + s.Table + " SET")
		w.many(len(s.Names), func(i int) {
			w.words(s.Names[i] + " =")
			w.expr(s.Exprs[i], 0)
		})
	case 5:
		w.words("DELETE FROM " + s.Table)
	case 6:
		w.selection(s)
	}
	if s.Where.Kind != 0 {
		w.word("WHERE")
		w.expr(s.Where, 0)
	}
	if s.Order != "" {
		w.words("ORDER BY")
		w.path(s.Order)
	}
	if s.Desc {
		w.word("DESC")
	}
	if s.Limit >= 0 {
		w.words("LIMIT " + strconv.Itoa(s.Limit))
	}
	w.text += strings.Repeat(" ", w.r.Intn(3))
	w.told()
}

func (w *writer) selection(s api.Stmt) {
	w.word("SELECT")
	switch {
	case s.Count:
		w.word("COUNT")
	case len(s.Cols) == 0:
		w.word("*")
	default:
		w.many(len(s.Cols), func(i int) { w.path(s.Cols[i]) })
	}
	if s.History {
		w.words("FROM HISTORY ( " + s.Table + " )")
	} else {
		w.words("FROM " + s.Table)
	}
}

func someName(r *rand.Rand) string {
	return []string{"a", "b", "c", "x", "_", "a1", "select", "Null", "a0123456789_abcd"}[r.Intn(9)]
}

func somePath(r *rand.Rand) string {
	s := someName(r)
	for r.Intn(3) == 0 {
		s += "." + someName(r)
	}
	return s
}

func someLiteral(r *rand.Rand) api.Expr {
	switch r.Intn(6) {
	case 0:
		return null()
	case 1:
		return truth(r.Intn(2) == 0)
	case 2:
		return str([]string{"", "a", "it's", "''", " ( ", "\xff"}[r.Intn(6)])
	case 3:
		return hexa([]string{"", "\x00", "\xff\x10"}[r.Intn(3)])
	}
	return num([]int64{0, 1, 7, 42, 9223372036854775807}[r.Intn(5)])
}

// someExpr is an expression of some size, and of few parts more.
func someExpr(r *rand.Rand, size int) api.Expr {
	if size <= 1 {
		switch r.Intn(8) {
		case 0:
			return list()
		case 1:
			return fields("")
		case 2, 3, 4:
			return path(somePath(r))
		}
		return someLiteral(r)
	}
	switch r.Intn(9) {
	case 0:
		return neg(someExpr(r, size-1))
	case 1:
		return not(someExpr(r, size-1))
	case 2:
		return isNull(someExpr(r, size-1))
	case 3:
		return not(isNull(someExpr(r, size-2)))
	case 4:
		return list(someParts(r, size-1)...)
	case 5:
		l := someParts(r, size-1)
		x := api.Expr{Kind: 8, Kids: l}
		for range l {
			x.Names = append(x.Names, someName(r))
		}
		return x
	}
	left := r.Intn(size)
	return bin(someExpr(r, left), between[r.Intn(len(between))].sign, someExpr(r, size-1-left))
}

// someParts is parts of which all together have some size; seldom more than there may be.
func someParts(r *rand.Rand, size int) []api.Expr {
	n := 1 + r.Intn(4)
	if size >= 10 && r.Intn(5) == 0 {
		n = 28 + r.Intn(7)
	}
	var l []api.Expr
	for range n {
		l = append(l, someExpr(r, size/n))
	}
	return l
}

// someDeep is an expression many others deep.
func someDeep(r *rand.Rand) api.Expr {
	x := someExpr(r, 1)
	for range 15 + r.Intn(15) {
		switch r.Intn(5) {
		case 0:
			x = neg(x)
		case 1:
			x = not(x)
		case 2:
			x = list(x)
		case 3:
			x = fields("a", x)
		case 4:
			x = bin(someExpr(r, 1), between[r.Intn(len(between))].sign, x)
		}
	}
	return x
}

func someStmt(r *rand.Rand) api.Stmt {
	expr := func() api.Expr {
		if r.Intn(6) == 0 {
			return someDeep(r)
		}
		return someExpr(r, []int{1, 2, 3, 5, 8, 20, 60, 150, 220}[r.Intn(9)])
	}
	s := api.Stmt{Kind: 1 + r.Intn(6), Table: someName(r), Limit: -1}
	switch s.Kind {
	case 2:
		s.Field = someName(r)
	case 3:
		s.Value = expr()
	case 4:
		for range []int{1, 2, 3, 32, 33}[r.Intn(5)] {
			s.Names = append(s.Names, someName(r))
			s.Exprs = append(s.Exprs, someExpr(r, 1+r.Intn(3)))
		}
		s.Exprs[0] = expr()
	case 6:
		s.Count = r.Intn(4) == 0
		s.History = r.Intn(2) == 0
		for range []int{0, 0, 1, 2, 32, 33}[r.Intn(6)] {
			if !s.Count {
				s.Cols = append(s.Cols, somePath(r))
			}
		}
		if r.Intn(2) == 0 {
			s.Order = somePath(r)
			s.Desc = r.Intn(2) == 0
		}
		if r.Intn(2) == 0 {
			s.Limit = []int{0, 1, 1000000}[r.Intn(3)]
		}
	}
	if s.Kind >= 4 && r.Intn(3) > 0 {
		s.Where = expr()
	}
	return s
}

// Promise 12.1: what is written of a statement is that statement again, or is refused where the first limit is passed.
func TestWritten(t *testing.T) {
	r := rand.New(rand.NewSource(2026))
	told := map[string]int{}
	for range 6000 {
		want := someStmt(r)
		w := &writer{r: r}
		w.stmt(want)
		switch {
		case len(w.text) > 2000:
			told["long"]++
			refused(t, w.text, 2000, 3)
		case w.err != api.OK:
			told["limit"]++
			refused(t, w.text, w.place, w.err)
		default:
			told["kind "+strconv.Itoa(want.Kind)]++
			parsed(t, w.text, want)
		}
	}
	for _, k := range []string{"long", "limit", "kind 1", "kind 2", "kind 3", "kind 4", "kind 5", "kind 6"} {
		if told[k] < 10 {
			t.Errorf("%d of %s", told[k], k)
		}
	}
}

// R4: the same text is told the same.
func TestAgain(t *testing.T) {
	r := rand.New(rand.NewSource(4))
	for range 300 {
		w := &writer{r: r}
		w.stmt(someStmt(r))
		a, at, e := Parse(w.text)
		b, atAgain, eAgain := Parse(w.text)
		if at != atAgain || e != eAgain || !reflect.DeepEqual(a, b) {
			t.Errorf("Parse(%q) is told %d at %d, and then %d at %d", w.text, e, at, eAgain, atAgain)
		}
	}
}

// T5: texts of any bytes, and words in any order, end with a statement or a named error.
func TestAnything(t *testing.T) {
	r := rand.New(rand.NewSource(5))
	all := allWords()
	for range 5000 {
		b := make([]byte, r.Intn(40))
		for i := range b {
			b[i] = byte(r.Intn(256))
		}
		ends(t, string(b))
		ends(t, wherever+string(b))
		text := ""
		for range r.Intn(30) {
			text += spelt(all[r.Intn(len(all))]) + " "
		}
		ends(t, text)
		ends(t, wherever+text)
	}
}
