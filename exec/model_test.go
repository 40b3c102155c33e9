package exec

import (
	"fmt"
	"math/rand/v2"
	"slices"
	"strings"
	"testing"

	"parchment/api"
	"parchment/buffer"
	"parchment/ranges"
	"parchment/syntax"
	"parchment/value"
	"parchment/views"
)

// chance makes statements at random, the same ones each time.
type chance struct{ *rand.Rand }

func chanceOf(seed uint64) chance { return chance{rand.New(rand.NewPCG(seed, 20))} }

func (c chance) of(l ...string) string { return l[c.IntN(len(l))] }

func (c chance) number() string { return fmt.Sprint(c.IntN(6)) }

// part is what stands in a document's field.
func (c chance) part() string {
	if c.IntN(8) > 0 {
		return c.number()
	}
	return c.of("NULL", "'x'", "TRUE", "[1]", "{c: 2}", "9223372036854775807")
}

func (c chance) doc() string {
	var parts []string
	for _, name := range []string{"a", "b", "n"} {
		if c.IntN(8) > 0 {
			parts = append(parts, name+": "+c.part())
		}
	}
	return "{" + strings.Join(parts, ", ") + "}"
}

// comparison is one that has an error over few documents, or over none.
func (c chance) comparison() string {
	sign := c.of("=", "<>", "<", "<=", ">", ">=")
	switch c.IntN(8) {
	case 0:
		return c.of("a", "b", "b.c") + c.of(" IS NULL", " IS NOT NULL")
	case 1:
		return c.of("a", "b") + " + " + c.number() + " " + sign + " " + c.number()
	case 2:
		return c.part() + " " + sign + " " + c.of("a", "b")
	}
	return c.of("a", "a", "b", "n") + " " + sign + " " + c.part()
}

func (c chance) where() string {
	switch c.IntN(6) {
	case 0:
		return ""
	case 1, 2:
		return " WHERE " + c.comparison()
	case 3:
		return " WHERE " + c.comparison() + " OR " + c.comparison()
	case 4:
		return " WHERE (" + c.comparison() + " OR NOT " + c.comparison() + ") AND " + c.comparison()
	}
	return " WHERE " + c.comparison() + " AND " + c.comparison()
}

// selection is a SELECT; now and then of the history.
func (c chance) selection() string {
	s := "SELECT " + c.of("*", "*", "COUNT", "a", "b, a", "b.c, n") + " FROM t" + c.where()
	if c.IntN(5) == 0 {
		s = "SELECT " + c.of("*", "COUNT", "doc, version", "data.a, op") + " FROM HISTORY (t)" + c.of("", " WHERE op = 3", " WHERE data.a > 2", " WHERE data.a + 1 > 2")
	}
	if c.IntN(2) == 0 {
		s += " ORDER BY " + c.of("a", "b", "b.c", "n", "doc", "data.b") + c.of("", " DESC")
	}
	if c.IntN(2) == 0 {
		s += " LIMIT " + c.number()
	}
	return s
}

func (c chance) change() string {
	switch c.IntN(8) {
	case 0, 1, 2, 3:
		return "INSERT INTO t VALUE " + c.doc()
	case 4, 5, 6:
		return "UPDATE t SET " + c.of("a = b, b = a", "a = a + 1", "n = 1, a = "+c.part(), "b = {c: a}", "b = "+c.number()) + c.where()
	}
	return "DELETE FROM t" + c.where()
}

func (c chance) statement() string {
	if c.IntN(2) == 0 {
		return c.selection()
	}
	return c.change()
}

// model is a second making: plain lists of a table t, its documents by their numbers.
type model struct {
	rows  []api.Row
	past  []api.Value // the history's rows
	index bool        // there is one of a
	made  uint64      // how many documents the transaction made
	revs  int         // how many revisions it has
	came  uint64      // how many documents are committed in all, those that went again included
}

func (m *model) clone() *model {
	c := *m
	c.rows, c.past = slices.Clone(m.rows), slices.Clone(m.past)
	return &c
}

// answered is what a statement is told.
type answered struct {
	rows    []string
	changed int
	e       api.Errno
}

// run does a statement that check lets pass.
func (m *model) run(s api.Stmt) answered {
	if s.Kind == api.StmtInsert {
		v, e := simple(s.Value, value.None())
		if e == api.OK {
			e = m.one()
		}
		if e != api.OK {
			return answered{e: e}
		}
		m.rows = append(m.rows, api.Row{Doc: api.OwnDoc + m.made, V: v})
		m.made++
		return answered{changed: 1}
	}
	var from []api.Row
	if s.History {
		for _, v := range m.past {
			from = append(from, api.Row{V: v})
		}
	} else {
		from = m.lookedAt(s.Where)
	}
	var l []api.Row
	for _, x := range from {
		yes, e := simply(s.Where, x.V)
		if e != api.OK {
			return answered{e: e}
		}
		if yes {
			l = append(l, x)
		}
	}
	if s.Kind == api.StmtSelect {
		return pick(s, l)
	}
	return m.changeAll(s, l)
}

// one counts a revision.
func (m *model) one() api.Errno {
	if m.revs == api.MaxRevs {
		return api.ErrLimit
	}
	m.revs++
	return api.OK
}

func (m *model) changeAll(s api.Stmt, l []api.Row) answered {
	for _, x := range l {
		at := slices.IndexFunc(m.rows, func(y api.Row) bool { return y.Doc == x.Doc })
		v := x.V
		for i, name := range s.Names {
			part, e := simple(s.Exprs[i], x.V)
			if e != api.OK {
				return answered{e: e}
			}
			v = value.With(v, name, part)
		}
		if s.Kind == api.StmtUpdate && value.Check(v) != api.OK {
			return answered{e: value.Check(v)}
		}
		if e := m.one(); e != api.OK {
			return answered{e: e}
		}
		if s.Kind == api.StmtDelete {
			m.rows = slices.Delete(m.rows, at, at+1)
		} else {
			m.rows[at] = api.Row{Doc: x.Doc, Version: x.Version + 1, V: v}
		}
	}
	return answered{changed: len(l)}
}

// lookedAt is all documents, or, if an index can tell, those that all comparisons of a with a literal hold for that AND joins.
func (m *model) lookedAt(where api.Expr) []api.Row {
	var l []api.Row
	for _, x := range m.rows {
		if !m.index || seen(where, x.V) {
			l = append(l, x)
		}
	}
	return l
}

// seen tells whether what AND joins lets an index see a document.
func seen(x api.Expr, d api.Value) bool {
	if x.Kind != api.ExprBin {
		return true
	}
	if x.S == "AND" {
		return seen(x.Kids[0], d) && seen(x.Kids[1], d)
	}
	field, literal := x.Kids[0], x.Kids[1]
	if field.Kind == api.ExprLit {
		field, literal = literal, field
	}
	asked := strings.Contains(" = < <= > >= ", " "+x.S+" ") && field.Kind == api.ExprField && field.S == "a" && literal.Kind == api.ExprLit
	if !asked {
		return true
	}
	yes, _ := simply(x, d)
	return yes
}

// pick is what SELECT answers of the rows that are meant.
func pick(s api.Stmt, l []api.Row) answered {
	if s.Order != "" {
		slices.SortStableFunc(l, func(x, y api.Row) int {
			c := value.Compare(step(x.V, s.Order), step(y.V, s.Order))
			if s.Desc {
				return -c
			}
			return c
		})
	}
	if s.Limit >= 0 && s.Limit < len(l) {
		l = l[:s.Limit]
	}
	var out []string
	for _, x := range l {
		switch {
		case s.Count:
		case len(s.Cols) == 0:
			out = append(out, show(x.V))
		default:
			v := value.Struct(nil, nil)
			for _, path := range s.Cols {
				v = value.With(v, path, step(x.V, path))
			}
			out = append(out, show(v))
		}
	}
	if s.Count {
		out = []string{fmt.Sprint(len(l))}
	}
	return answered{rows: out}
}

// step goes along a path.
func step(v api.Value, path string) api.Value {
	for _, name := range strings.Split(path, ".") {
		v = value.Get(v, name)
	}
	return v
}

func simply(x api.Expr, d api.Value) (bool, api.Errno) {
	if x.Kind == 0 {
		return true, api.OK
	}
	v, e := simple(x, d)
	if e == api.OK && v.Kind != api.Bool && v.Kind != api.Null {
		e = api.ErrType
	}
	return v.B && e == api.OK, e
}

// simple reckons the expressions that are made here.
func simple(x api.Expr, d api.Value) (api.Value, api.Errno) {
	switch x.Kind {
	case api.ExprLit:
		return x.V, api.OK
	case api.ExprField:
		return step(d, x.S), api.OK
	}
	if x.Kind == api.ExprBin && (x.S == "AND" || x.S == "OR") {
		yes, e := simply(x.Kids[0], d)
		if e == api.OK && yes == (x.S == "AND") {
			yes, e = simply(x.Kids[1], d)
		}
		return value.Bool(yes), e
	}
	var kids []api.Value
	for _, k := range x.Kids {
		v, e := simple(k, d)
		if e != api.OK {
			return api.Value{}, e
		}
		kids = append(kids, v)
	}
	switch x.Kind {
	case api.ExprNot:
		yes, e := simply(lit(kids[0]), d)
		return value.Bool(!yes), e
	case api.ExprIsNull:
		return value.Bool(kids[0].Kind == api.Null), api.OK
	case api.ExprList:
		return value.List(kids...), api.OK
	case api.ExprStruct:
		return value.Struct(x.Names, kids), api.OK
	}
	return between(x.S, kids[0], kids[1])
}

// between is what a sign makes of two values: a comparison, or a sum with a number that is small.
func between(sign string, a, b api.Value) (api.Value, api.Errno) {
	c := value.Compare(a, b)
	switch sign {
	case "=":
		return value.Bool(c == 0), api.OK
	case "<>":
		return value.Bool(c != 0), api.OK
	case "<":
		return value.Bool(c < 0), api.OK
	case "<=":
		return value.Bool(c <= 0), api.OK
	case ">":
		return value.Bool(c > 0), api.OK
	case ">=":
		return value.Bool(c >= 0), api.OK
	}
	switch {
	case a.Kind == api.Null:
		return value.None(), api.OK
	case a.Kind != api.Int:
		return api.Value{}, api.ErrType
	case a.N+b.N < a.N:
		return api.Value{}, api.ErrOver
	}
	return value.Int(a.N + b.N), api.OK
}

// settle commits: own numbers become the next ones, and what was done stands in the history.
func (m *model) settle(v *views.View) {
	for i, x := range m.rows {
		if x.Doc >= api.OwnDoc {
			m.rows[i].Doc = x.Doc - api.OwnDoc + m.came + 1
		}
	}
	m.came += m.made
	m.made, m.revs, m.past = 0, 0, nil
	for _, p := range v.Past("t") {
		if p.Rev.Doc > 0 {
			m.past = append(m.past, Past(p))
		}
	}
}

// Statements at random, with commits and transactions that are let go, against the second making.
func TestAgainstASecondMaking(t *testing.T) {
	told := map[api.Errno]int{}
	for seed := range uint64(60) {
		c := chanceOf(seed)
		w := tableOf(t)
		m := &model{}
		last := m.clone()
		for range 150 {
			switch n := c.IntN(60); {
			case n == 0 && !m.index:
				w.commitIfAny()
				w.must("CREATE INDEX ON t (a)")
				w.commit()
				m.index = true
				m.settle(w.v)
				last = m.clone()
			case n < 3:
				w.commitIfAny()
				m.settle(w.v)
				last = m.clone()
			case n == 3:
				w.b = buffer.New(w.v)
				m = last.clone()
			default:
				told[compare(t, w, &m, c.statement())]++
			}
		}
		if got, want := w.must("SELECT * FROM t").Rows, pick(api.Stmt{Limit: -1}, m.rows).rows; !slices.Equal(shown(got), want) {
			t.Fatalf("seed %d: at last %q, want %q", seed, shown(got), want)
		}
	}
	for _, e := range []api.Errno{api.OK, api.ErrType, api.ErrOver, api.ErrLimit} {
		if told[e] < 20 {
			t.Errorf("error %d was told %d times alone", e, told[e])
		}
	}
}

// commitIfAny commits, if something was done.
func (w *world) commitIfAny() {
	w.t.Helper()
	if len(w.b.Revs()) > 0 {
		w.commit()
	}
}

// compare runs a statement here and there: its error.
func compare(t *testing.T, w *world, m **model, text string) api.Errno {
	t.Helper()
	s, _, e := syntax.Parse(text)
	if e != api.OK {
		t.Fatal(text, e)
	}
	next := (*m).clone()
	want := next.run(s)
	r, b, e := Run(w.v, w.b, s)
	if e != want.e || r.Changed != want.changed || !slices.Equal(shown(r.Rows), want.rows) {
		t.Fatalf("%s (index: %v):\n%s, want\n%q, changed %d, error %d\nof %v", text, (*m).index, answer(r, e), want.rows, want.changed, want.e, (*m).rows)
	}
	w.b = b
	if e == api.OK {
		*m = next
	}
	if n := len(w.b.Revs()); e == api.OK && !(*m).same(n, w.b.All("t")) || n > api.MaxRevs {
		t.Fatalf("%s: %d revisions, %v; want %d, %v", text, n, w.b.All("t"), (*m).revs, (*m).rows)
	}
	return e
}

func (m *model) same(revs int, l []api.Row) bool {
	return m.revs == revs && slices.EqualFunc(l, m.rows, func(x, y api.Row) bool {
		return x.Doc == y.Doc && x.Version == y.Version && value.Same(x.V, y.V)
	})
}

// startOf is a table with some documents that are committed.
func startOf(t *testing.T, c chance) *views.View {
	w := tableOf(t)
	for range c.IntN(12) {
		w.must("INSERT INTO t VALUE " + c.doc())
	}
	if c.IntN(4) > 0 {
		w.must("CREATE INDEX ON t (a)")
	}
	if c.IntN(4) == 0 {
		w.must("CREATE INDEX ON t (b)")
	}
	w.commitIfAny()
	return w.v
}

// What a statement is told hangs on its looks alone: a commit that hits none of them changes nothing of it (T2).
func TestOtherCommitsThatHitNoLook(t *testing.T) {
	missed, hit := 0, 0
	for seed := range uint64(3000) {
		c := chanceOf(seed)
		v := startOf(t, c)
		mine, texts := &world{t: t, v: v, b: buffer.New(v)}, []string{}
		var looks ranges.Set
		var first []string
		for range 1 + c.IntN(4) {
			text := c.statement()
			texts = append(texts, text)
			r, e := mine.run(text)
			first = append(first, answer(r, e))
			for _, l := range r.Reads {
				looks.Add(l)
			}
		}
		did := fmt.Sprint(mine.b.Revs())
		other := &world{t: t, v: v, b: buffer.New(v)}
		for range 1 + c.IntN(2) {
			other.run(c.of(c.change(), c.change(), c.change(), c.change(), "CREATE TABLE u", "CREATE INDEX ON t (n)"))
		}
		if looks.Hit(buffer.Touches(v, buffer.Final(other.b.Revs(), v.Next()))) {
			hit++
			continue
		}
		missed++
		other.commitIfAny()
		again := &world{t: t, v: v, b: buffer.New(v)}
		for i, text := range texts {
			r, e := again.run(text)
			if got := answer(r, e); got != first[i] {
				t.Fatalf("seed %d, %s: alone\n%s, before\n%s", seed, text, got, first[i])
			}
		}
		if got := fmt.Sprint(again.b.Revs()); got != did {
			t.Fatalf("seed %d: alone it does\n%s, before\n%s", seed, got, did)
		}
	}
	if missed < 300 || hit < 300 {
		t.Error("too few of one kind:", missed, hit)
	}
}
