package buffer

import (
	"fmt"
	"math"
	"math/rand"
	"slices"
	"strings"
	"testing"

	"parchment/api"
	"parchment/block"
	"parchment/keys"
	"parchment/value"
	"parchment/views"
)

func shape(table string) api.Touch { return api.Touch{Table: table, Shape: true} }

func came(table string, v api.Value) api.Touch { return api.Touch{Table: table, New: v, Is: true} }

func went(table string, v api.Value) api.Touch { return api.Touch{Table: table, Old: v, Was: true} }

func changed(table string, old, now api.Value) api.Touch {
	return api.Touch{Table: table, Old: old, New: now, Was: true, Is: true}
}

func TestFinal(t *testing.T) {
	l := []api.Rev{
		made("t"), index("t", "a"), insert("t", api.OwnDoc, num(1)), insert("t", api.OwnDoc+1, num(2)),
		update("t", api.OwnDoc, 1, num(3)), update("t", 5, 7, num(4)), remove("t", api.OwnDoc+1, 1), remove("t", api.OwnDoc-1, 2),
	}
	was := slices.Clone(l)
	for _, next := range []uint64{1, 6, 1 << 20} {
		wantRevs(t, fmt.Sprint("from ", next), Final(l, next),
			made("t"), index("t", "a"), insert("t", next, num(1)), insert("t", next+1, num(2)),
			update("t", next, 1, num(3)), update("t", 5, 7, num(4)), remove("t", next+1, 1), remove("t", api.OwnDoc-1, 2))
		wantRevs(t, "what was handed in", l, was...)
	}
	wantRevs(t, "nothing", Final(nil, 3))
	wantRevs(t, "an empty list", Final([]api.Rev{}, 3))
	out := Final(l, 1)
	out[0] = api.Rev{}
	wantRevs(t, "what was handed in", l, was...)
	for _, next := range []uint64{0, math.MaxUint64} {
		if r := Final([]api.Rev{insert("t", math.MaxUint64, num(1)), insert("t", api.OwnDoc, num(1))}, next); len(r) != 2 || r[1].Doc != next {
			t.Error(r)
		}
	}
	many := make([]api.Rev, 1000)
	for i := range many {
		many[i] = insert("t", api.OwnDoc+uint64(999-i), num(1))
	}
	for i, r := range Final(many, 10) {
		if r.Doc != uint64(1009-i) {
			t.Fatal(i, r)
		}
	}
}

// Numbers that a transaction gave to documents which went again are taken, too: so what is final fits.
func TestFinalFits(t *testing.T) {
	v := committed(t, 1, 2)
	b := New(v)
	first := mustInsert(t, b, "t", num(3))
	mustInsert(t, b, "t", num(4))
	may(t, b.Delete("t", first), b.Table("u"))
	third := mustInsert(t, b, "u", num(5))
	may(t, b.Update("u", third, num(6)), b.Update("t", 1, num(7)), b.Delete("t", 2))
	commit(t, v, insert("t", 3, num(8)))
	commit(t, v, Final(b.Revs(), v.Next())...)
	if v.Next() != 7 {
		t.Error(v.Next())
	}
	c := New(v)
	wantRows(t, "t", c.All("t"), row(1, 1, num(7)), row(3, 0, num(8)), row(5, 0, num(4)))
	wantRows(t, "u", c.All("u"), row(6, 1, num(6)))
}

func TestTouches(t *testing.T) {
	v := committed(t, 1, 2, 3)
	b := New(v)
	may(t, b.Table("u"), b.Index("u", "a"), b.Index("t", "b"))
	n := mustInsert(t, b, "t", num(10))
	may(t, b.Update("t", n, num(11)), b.Update("t", n, num(12)), b.Delete("t", n))
	may(t, b.Update("t", 1, num(20)), b.Update("t", 1, num(21)), b.Delete("t", 1), b.Delete("t", 2))
	m := mustInsert(t, b, "u", num(30))
	may(t, b.Update("u", m, num(30)))
	want := []api.Touch{
		shape("u"), shape("u"), shape("t"),
		came("t", num(10)), changed("t", num(10), num(11)), changed("t", num(11), num(12)), went("t", num(12)),
		changed("t", num(1), num(20)), changed("t", num(20), num(21)), went("t", num(21)), went("t", num(2)),
		came("u", num(30)), changed("u", num(30), num(30)),
	}
	ahead, revs := told(New(v)), b.Revs()
	for range 2 {
		wantTouches(t, "its own numbers", Touches(v, b.Revs()), want...)
		wantTouches(t, "final", Touches(v, Final(b.Revs(), v.Next())), want...)
	}
	l := b.Revs()
	Touches(v, l)
	wantRevs(t, "what is handed in", l, revs...)
	if told(New(v)) != ahead {
		t.Error("what is committed is touched indeed:", told(New(v)))
	}
	wantTouches(t, "of nothing", Touches(v, nil))
	wantTouches(t, "of an empty list", Touches(v, []api.Rev{}))
}

// A table has documents of its own alone: what is done to one in t is not done in u.
func TestTouchesOfTwoTables(t *testing.T) {
	v := committed(t, 1)
	commit(t, v, made("u"), insert("u", 2, num(2)))
	wantTouches(t, "two tables", Touches(v, []api.Rev{update("t", 1, 1, num(3)), update("u", 2, 1, num(4)), remove("t", 1, 2), remove("u", 2, 2)}),
		changed("t", num(1), num(3)), changed("u", num(2), num(4)), went("t", num(3)), went("u", num(4)))
}

// Bytes that are gone say nothing: the document is nothing, but it is there, as it is in a view.
func TestTouchesOfBytesThatAreGone(t *testing.T) {
	gone := func(r api.Rev) api.Rev {
		r.Body, r.Gone = "", true
		return r
	}
	v := committed(t, 1)
	l := []api.Rev{gone(insert("t", 2, num(2))), update("t", 2, 1, num(3)), gone(update("t", 1, 1, num(4))), remove("t", 1, 2)}
	nothing := value.None()
	wantTouches(t, "gone", Touches(v, l), came("t", nothing), changed("t", nothing, num(3)), changed("t", num(1), nothing), went("t", nothing))
	commit(t, v, l[:3]...)
	wantTouches(t, "one that was gone goes", Touches(v, l[3:]), went("t", nothing))
	b := New(v)
	wantRows(t, "one that is gone is seen", b.All("t"), row(1, 1, nothing), row(2, 1, num(3)))
	wantRows(t, "it has nothing in its field", b.Range("t", "a", keys.Equal(nothing)), row(1, 1, nothing))
	may(t, b.Update("t", 1, num(5)))
	wantRevs(t, "another one in its place", b.Revs(), update("t", 1, 2, num(5)))
}

// R1: over nothing, of revisions that do not fit, or may not be, something is answered for each.
func TestTouchesOfRevisionsThatDoNotFit(t *testing.T) {
	l := []api.Rev{
		{}, {Op: 6, Table: "t"}, {Op: -1}, index("u", "b"), insert("u", 3, num(1)), update("t", 9, 1, num(1)), remove("t", 9, 1),
		{Op: api.OpInsert, Table: "t", Doc: 1, Body: "no value"}, {Op: api.OpUpdate, Body: strings.Repeat("\x06", 100)}, insert("t", 0, num(1)),
		update("t", math.MaxUint64, math.MaxUint64, num(1)), remove("", 0, 0), made("t"), made("t"), index("t", "a"), index("t", "a"),
	}
	for what, v := range map[string]*views.View{"nil": nil, "empty": views.New(), "t": committed(t, 1)} {
		got := Touches(v, l)
		if len(got) != len(l) {
			t.Fatal(what, got)
		}
		wantTouches(t, what, got[3:7], shape("u"), came("u", num(1)), came("t", num(1)), went("t", num(1)))
	}
	there := committed(t, 1)
	wantTouches(t, "one that is there comes", Touches(there, []api.Rev{insert("t", 1, num(2)), insert("t", 1, num(3)), remove("t", 1, 1)}),
		came("t", num(2)), came("t", num(3)), went("t", num(3)))
	wantTouches(t, "there is none to go", Touches(nil, []api.Rev{remove("t", 1, 1)}), api.Touch{Table: "t"})
	wantTouches(t, "there was none ahead", Touches(nil, []api.Rev{update("t", 1, 1, num(1))}), came("t", num(1)))
}

func TestTouchesShareNothing(t *testing.T) {
	v := committed(t)
	commit(t, v, insert("t", 1, nested(1)))
	l := []api.Rev{update("t", 1, 1, nested(2)), update("t", 1, 2, nested(3)), remove("t", 1, 3)}
	got := Touches(v, l)
	spoil(got[0].New)
	spoil(got[1].Old)
	spoil(got[2].Old)
	wantTouches(t, "each has its own", got[1:2], api.Touch{Table: "t", Old: got[1].Old, New: nested(3), Was: true, Is: true})
	spoil(got[0].Old)
	wantTouches(t, "again", Touches(v, l), changed("t", nested(1), nested(2)), changed("t", nested(2), nested(3)), went("t", nested(3)))
}

// model is a transaction as plain lists over a plain copy of what was committed.
type model struct {
	docs   []plainDoc
	fields map[string][]string // by tables
	revs   []api.Rev
	made   uint64
}

type plainDoc struct {
	table string
	row   api.Row
}

func (m *model) copied() *model {
	c := &model{docs: slices.Clone(m.docs), revs: slices.Clone(m.revs), made: m.made, fields: map[string][]string{}}
	for name, l := range m.fields {
		c.fields[name] = slices.Clone(l)
	}
	return c
}

func (m *model) at(table string, doc uint64) int {
	return slices.IndexFunc(m.docs, func(d plainDoc) bool { return d.table == table && d.row.Doc == doc })
}

func (m *model) add(r api.Rev) bool {
	if len(m.revs) == api.MaxRevs {
		return false
	}
	m.revs = append(m.revs, block.Sealed(r))
	return true
}

func (m *model) table(name string) api.Errno {
	if _, there := m.fields[name]; there {
		return api.ErrTwice
	}
	if !m.add(made(name)) {
		return api.ErrLimit
	}
	m.fields[name] = nil
	return api.OK
}

func (m *model) index(table, field string) api.Errno {
	l, there := m.fields[table]
	switch {
	case !there:
		return api.ErrTable
	case slices.Contains(l, field):
		return api.ErrTwice
	case !m.add(index(table, field)):
		return api.ErrLimit
	}
	m.fields[table] = append(l, field)
	return api.OK
}

func (m *model) insert(table string, v api.Value) (uint64, api.Errno) {
	if _, there := m.fields[table]; !there {
		return 0, api.ErrTable
	}
	n := api.OwnDoc + m.made
	if !m.add(insert(table, n, v)) {
		return 0, api.ErrLimit
	}
	m.made++
	m.docs = append(m.docs, plainDoc{table, row(n, 0, v)})
	return n, api.OK
}

func (m *model) update(table string, n uint64, v api.Value) api.Errno {
	at := m.at(table, n)
	if at < 0 {
		return api.ErrNone
	}
	version := m.docs[at].row.Version + 1
	if !m.add(update(table, n, version, v)) {
		return api.ErrLimit
	}
	m.docs[at].row = row(n, version, v)
	return api.OK
}

func (m *model) remove(table string, n uint64) api.Errno {
	at := m.at(table, n)
	if at < 0 {
		return api.ErrNone
	}
	if !m.add(remove(table, n, m.docs[at].row.Version+1)) {
		return api.ErrLimit
	}
	m.docs = slices.Delete(m.docs, at, at+1)
	return api.OK
}

// all is a table's documents, by their numbers.
func (m *model) all(table string) []api.Row {
	var l []api.Row
	for _, d := range m.docs {
		if d.table == table {
			l = append(l, d.row)
		}
	}
	slices.SortFunc(l, func(a, b api.Row) int {
		if a.Doc < b.Doc {
			return -1
		}
		return 1
	})
	return l
}

// within is those whose field has a key in a span, by the order of values (not of keys) and then by their numbers.
func (m *model) within(table, field string, s api.Span) []api.Row {
	if !slices.Contains(m.fields[table], field) {
		return nil
	}
	var l []api.Row
	for _, x := range m.all(table) {
		if k := keys.Of(value.Get(x.V, field)); k >= s.Low && (s.High == "" || k < s.High) {
			l = append(l, x)
		}
	}
	slices.SortStableFunc(l, func(a, b api.Row) int {
		return value.Compare(value.Get(a.V, field), value.Get(b.V, field))
	})
	return l
}

func anyName(r *rand.Rand) string { return string(rune('a' + r.Intn(4))) }

// chance is a document whose fields come from few values.
func chance(r *rand.Rand) api.Value {
	all := valuesOfAllKinds()
	v := of()
	for _, name := range []string{"a", "b", "c"} {
		switch r.Intn(4) {
		case 0:
			v = value.With(v, name, all[r.Intn(len(all))])
		case 1, 2:
			v = value.With(v, name, value.Int(int64(r.Intn(4))))
		}
	}
	return v
}

// step does one thing to a buffer, and to a model.
func step(t *testing.T, r *rand.Rand, b *Buffer, m *model) {
	t.Helper()
	table, field, v := anyName(r), anyName(r), chance(r)
	n := uint64(r.Intn(20))
	if r.Intn(2) == 0 {
		n = api.OwnDoc + uint64(r.Intn(int(m.made)+1))
	}
	if at := r.Intn(len(m.docs) + 1); at < len(m.docs) && r.Intn(3) > 0 {
		table, n = m.docs[at].table, m.docs[at].row.Doc
	}
	var got, want api.Errno
	switch r.Intn(12) {
	case 0:
		got, want = b.Table(table), m.table(table)
	case 1:
		got, want = b.Index(table, field), m.index(table, field)
	case 2, 3, 4:
		i, e := b.Insert(table, v)
		k, f := m.insert(table, v)
		if i != k {
			t.Fatalf("Insert: %d, want %d", i, k)
		}
		got, want = e, f
	case 5, 6, 7, 8:
		got, want = b.Update(table, n, v), m.update(table, n, v)
	default:
		got, want = b.Delete(table, n), m.remove(table, n)
	}
	if got != want {
		t.Fatalf("error %d, want %d", got, want)
	}
}

// same holds all that a buffer tells against a model.
func same(t *testing.T, r *rand.Rand, b *Buffer, m *model) {
	t.Helper()
	want := api.Catalog{}
	for name, l := range m.fields {
		want[name] = slices.Sorted(slices.Values(l))
	}
	wantCatalog(t, "Catalog", b.Catalog(), want)
	wantRevs(t, "Revs", b.Revs(), m.revs...)
	for _, table := range []string{"a", "b", "c", "d", "e"} {
		wantRows(t, "All "+table, b.All(table), m.all(table)...)
		for _, field := range []string{"a", "b", "c", "d", "e"} {
			l := spans(valuesOfAllKinds()[r.Intn(27)])
			for _, s := range []api.Span{keys.All(), l[r.Intn(len(l))], l[r.Intn(len(l))]} {
				wantRows(t, fmt.Sprintf("Range %s %s %q", table, field, s), b.Range(table, field, s), m.within(table, field, s)...)
			}
		}
		for _, d := range m.docs {
			x, ok := b.Get(table, d.row.Doc)
			if ok != (table == d.table) || ok && !alikeRow(x, d.row) {
				t.Errorf("Get(%q, %d): %v, %v", table, d.row.Doc, x, ok)
			}
		}
	}
	if t.Failed() {
		t.FailNow()
	}
}

// begun is a view and a model of what a transaction sees that begins over it.
func begun(t *testing.T, r *rand.Rand) (*views.View, *model) {
	t.Helper()
	v, m := views.New(), &model{fields: map[string][]string{}}
	for range 1 + r.Intn(4) {
		b := New(v)
		for range 20 {
			step(t, r, b, m)
		}
		l := Final(b.Revs(), v.Next())
		if len(l) > 0 {
			commit(t, v, l...)
		}
		m = modelOf(v)
	}
	return v, m
}

// modelOf is a model of what is committed.
func modelOf(v *views.View) *model {
	m := &model{fields: v.Catalog()}
	for _, table := range v.Tables() {
		for x := range v.Rows(table).All() {
			m.docs = append(m.docs, plainDoc{table, x})
		}
	}
	return m
}

// Many transactions, held against plain lists; some of what they did is tried on clones that are let go.
func TestManyTransactions(t *testing.T) {
	for seed := range int64(60) {
		r := rand.New(rand.NewSource(seed))
		v, m := begun(t, r)
		b := New(v)
		for i := range 90 {
			if r.Intn(10) == 0 {
				c, d := b.Clone(), m.copied()
				step(t, r, c, d)
				step(t, r, c, d)
				same(t, r, c, d)
				if r.Intn(2) == 0 {
					b, m = c, d
				}
			}
			step(t, r, b, m)
			if i%9 == 0 {
				same(t, r, b, m)
			}
		}
		same(t, r, b, m)
	}
}

// T1, T2: what a transaction saw is what its block comes to; documents that it made have the next numbers there.
func TestWhatIsSeenIsWhatIsCommitted(t *testing.T) {
	for seed := range int64(60) {
		r := rand.New(rand.NewSource(seed))
		v, m := begun(t, r)
		b := New(v)
		for len(b.Revs()) < 1+int(seed) {
			step(t, r, b, m)
		}
		next := v.Next()
		seen := map[string][]api.Row{}
		for table := range b.Catalog() {
			seen[table] = b.All(table)
			for i := range seen[table] {
				if x := &seen[table][i]; x.Doc >= api.OwnDoc {
					x.Doc = x.Doc - api.OwnDoc + next
				}
			}
		}
		catalog := b.Catalog()
		commit(t, v, Final(b.Revs(), next)...)
		wantCatalog(t, "committed", v.Catalog(), catalog)
		for _, table := range v.Tables() {
			wantRows(t, "committed "+table, slices.Collect(v.Rows(table).All()), seen[table]...)
		}
	}
}

// Touches are what a view tells of the documents ahead of each revision, and behind it, when these are done one by one.
func TestTouchesAgainstViews(t *testing.T) {
	for seed := range int64(60) {
		r := rand.New(rand.NewSource(seed))
		v, m := begun(t, r)
		b := New(v)
		for range 70 {
			step(t, r, b, m)
		}
		l := Final(b.Revs(), v.Next())
		got := Touches(v, l)
		wantTouches(t, "its own numbers", Touches(v, b.Revs()), got...)
		var want []api.Touch
		for _, x := range l {
			was, is := v.Rows(x.Table), api.Touch{Table: x.Table, Shape: x.Op == api.OpTable || x.Op == api.OpIndex}
			old, ok := was.Get(x.Doc)
			is.Old, is.Was = old.V, ok
			commit(t, v, x)
			now, ok := v.Rows(x.Table).Get(x.Doc)
			is.New, is.Is = now.V, ok
			want = append(want, is)
		}
		wantTouches(t, fmt.Sprint("seed ", seed), got, want...)
	}
}
