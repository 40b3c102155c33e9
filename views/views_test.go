package views

import (
	"fmt"
	"maps"
	"math"
	"math/rand"
	"slices"
	"strings"
	"testing"

	"parchment/api"
	"parchment/block"
	"parchment/keys"
	"parchment/value"
)

// num is a struct whose field a is a number.
func num(n int64) api.Value {
	return value.Struct([]string{"a", "b"}, []api.Value{value.Int(n), value.Str(fmt.Sprint(n % 3))})
}

// bytesOf is a value's bytes.
func bytesOf(v api.Value) string {
	s, e := value.Encode(v)
	if e != api.OK {
		panic(e)
	}
	return s
}

func made(table string) api.Rev { return api.Rev{Op: api.OpTable, Table: table} }

func index(table, field string) api.Rev {
	return api.Rev{Op: api.OpIndex, Table: table, Field: field}
}

func insert(table string, doc uint64, v api.Value) api.Rev {
	return block.Sealed(api.Rev{Op: api.OpInsert, Table: table, Doc: doc, Body: bytesOf(v)})
}

func update(table string, doc, version uint64, v api.Value) api.Rev {
	return block.Sealed(api.Rev{Op: api.OpUpdate, Table: table, Doc: doc, Version: version, Body: bytesOf(v)})
}

func remove(table string, doc, version uint64) api.Rev {
	return api.Rev{Op: api.OpDelete, Table: table, Doc: doc, Version: version}
}

// raw is a revision with bytes that may be no document's.
func raw(r api.Rev, body string) api.Rev {
	r.Body = body
	return block.Sealed(r)
}

// gone is a revision without its bytes.
func gone(r api.Rev) api.Rev {
	r.Body, r.Gone = "", true
	return r
}

func blockOf(seq uint64, revs ...api.Rev) api.Block { return api.Block{Seq: seq, Revs: revs} }

// blocksOf is blocks of a revision each.
func blocksOf(revs ...api.Rev) []api.Block {
	var l []api.Block
	for i, r := range revs {
		l = append(l, blockOf(uint64(i), r))
	}
	return l
}

// viewOf is the view of blocks that must fit.
func viewOf(t *testing.T, l []api.Block) *View {
	t.Helper()
	v, e := Of(l)
	if e != api.OK || v == nil {
		t.Fatal("Of:", e)
	}
	return v
}

// row is a document as a text.
func row(x api.Row) string { return fmt.Sprintf("%d.%d=%q ", x.Doc, x.Version, bytesOf(x.V)) }

// told is everything that a view tells, as a text.
func told(v *View) string {
	var s strings.Builder
	fmt.Fprintf(&s, "%d %d %q\n", v.Seq(), v.Next(), v.Tables())
	c := v.Catalog()
	for _, name := range slices.Sorted(maps.Keys(c)) {
		fmt.Fprintf(&s, "catalog %s %q\n", name, c[name])
	}
	for _, name := range v.Tables() {
		r := v.Rows(name)
		fmt.Fprintf(&s, "%s: %d %q\n", name, r.Len(), r.Indexes())
		for x := range r.All() {
			s.WriteString(row(x))
		}
		for _, f := range r.Indexes() {
			fmt.Fprintf(&s, "\nby %s: ", f)
			for x := range r.Range(f, keys.All()) {
				s.WriteString(row(x))
			}
		}
		fmt.Fprintf(&s, "\npast %q\n", fmt.Sprint(v.Past(name)))
	}
	return s.String()
}

// model is a view as plain lists, in which each revision of a block is done on a copy of all.
type model struct {
	seq, next uint64
	tables    []string
	fields    map[string][]string
	docs      []plainDoc
	past      []plainPast
}

type plainDoc struct {
	table string
	row   api.Row
}

type plainPast struct {
	table string
	past  api.Past
}

func (m model) copied() model {
	m.tables, m.docs, m.past = slices.Clone(m.tables), slices.Clone(m.docs), slices.Clone(m.past)
	fields := map[string][]string{}
	for name, l := range m.fields {
		fields[name] = slices.Clone(l)
	}
	m.fields = fields
	return m
}

func (m *model) at(r api.Rev) int {
	return slices.IndexFunc(m.docs, func(d plainDoc) bool { return d.table == r.Table && d.row.Doc == r.Doc })
}

// step is what a revision does, and whether it fits.
func (m *model) step(r api.Rev) bool {
	there := slices.Contains(m.tables, r.Table)
	if there == (r.Op == api.OpTable) {
		return false
	}
	v, may := value.None(), true
	if r.Op == api.OpInsert || r.Op == api.OpUpdate {
		if !r.Gone {
			x, e := value.Decode(r.Body)
			v, may = x, e == api.OK && x.Kind == api.Struct
		}
	}
	at := m.at(r)
	switch r.Op {
	case api.OpTable:
		m.tables = append(m.tables, r.Table)
	case api.OpIndex:
		if slices.Contains(m.fields[r.Table], r.Field) {
			return false
		}
		m.fields[r.Table] = append(m.fields[r.Table], r.Field)
	case api.OpInsert:
		if r.Doc != m.next || !may {
			return false
		}
		m.next++
		m.docs = append(m.docs, plainDoc{r.Table, api.Row{Doc: r.Doc, V: v}})
	default:
		if at < 0 || m.docs[at].row.Version+1 != r.Version || !may {
			return false
		}
		if r.Op == api.OpDelete {
			m.docs = slices.Delete(m.docs, at, at+1)
		} else {
			m.docs[at].row = api.Row{Doc: r.Doc, Version: r.Version, V: v}
		}
	}
	return true
}

// apply is the model behind a block of revisions that may be, and its error.
func (m model) apply(b api.Block) (model, api.Errno) {
	n := m.copied()
	if b.Seq != m.seq {
		return m, api.ErrState
	}
	for i, r := range b.Revs {
		if !n.step(r) {
			return m, api.ErrState
		}
		n.past = append(n.past, plainPast{r.Table, api.Past{Seq: b.Seq, Index: i, Rev: r}})
	}
	n.seq++
	return n, api.OK
}

// told is what a view must tell, as the same text.
func (m model) told() string {
	var s strings.Builder
	names := slices.Sorted(slices.Values(m.tables))
	fmt.Fprintf(&s, "%d %d %q\n", m.seq, m.next, names)
	for _, name := range names {
		fmt.Fprintf(&s, "catalog %s %q\n", name, slices.Sorted(slices.Values(m.fields[name])))
	}
	for _, name := range names {
		var l []api.Row
		for _, d := range m.docs {
			if d.table == name {
				l = append(l, d.row)
			}
		}
		slices.SortFunc(l, func(a, b api.Row) int { return int(a.Doc) - int(b.Doc) })
		fields := slices.Sorted(slices.Values(m.fields[name]))
		fmt.Fprintf(&s, "%s: %d %q\n", name, len(l), fields)
		for _, x := range l {
			s.WriteString(row(x))
		}
		for _, f := range fields {
			fmt.Fprintf(&s, "\nby %s: ", f)
			by := slices.Clone(l)
			slices.SortStableFunc(by, func(a, b api.Row) int {
				return value.Compare(value.Get(a.V, f), value.Get(b.V, f))
			})
			for _, x := range by {
				s.WriteString(row(x))
			}
		}
		var past []api.Past
		for _, p := range m.past {
			if p.table == name {
				past = append(past, p.past)
			}
		}
		fmt.Fprintf(&s, "\npast %q\n", fmt.Sprint(past))
	}
	return s.String()
}

func newModel() model { return model{next: 1, fields: map[string][]string{}} }

// busy is blocks with each operation, in two tables.
func busy() []api.Block {
	return []api.Block{
		blockOf(0, made("t"), insert("t", 1, num(5))),
		blockOf(1, index("t", "a"), insert("t", 2, num(-3)), made("s")),
		blockOf(2, insert("s", 3, num(9)), update("t", 1, 1, num(-7)), remove("t", 2, 1)),
		blockOf(3, insert("t", 4, num(1)), update("t", 4, 1, num(2)), update("t", 4, 2, num(3)), index("s", "b"), index("s", "a")),
	}
}

func TestInsertOfDocumentTwoFirst(t *testing.T) {
	v := New()
	if e := v.Apply(blockOf(0, made("t"), insert("t", 2, num(1)))); e != api.ErrState {
		t.Error(e)
	}
	if got, want := told(v), told(New()); got != want {
		t.Error("something was done:", got)
	}
}

func TestNewHasNothing(t *testing.T) {
	v := New()
	if v == nil || v.Seq() != 0 || v.Next() != 1 || len(v.Tables()) != 0 || len(v.Catalog()) != 0 {
		t.Fatal(told(v))
	}
	if v.Rows("t") != nil || len(v.Past("t")) != 0 || v.Erase(0, 0) {
		t.Error("a table")
	}
	if v == New() {
		t.Error("the same one twice")
	}
}

func TestWhatRevisionsDo(t *testing.T) {
	v, m := New(), newModel()
	for _, b := range busy() {
		if e := v.Apply(b); e != api.OK {
			t.Fatal(b.Seq, e)
		}
		m, _ = m.apply(b)
		if got, want := told(v), m.told(); got != want {
			t.Fatalf("behind block %d:\n%s\nwant:\n%s", b.Seq, got, want)
		}
	}
	if v.Seq() != 4 || v.Next() != 5 || !slices.Equal(v.Tables(), []string{"s", "t"}) {
		t.Error(v.Seq(), v.Next(), v.Tables())
	}
	c := v.Catalog()
	if len(c) != 2 || !slices.Equal(c["s"], []string{"a", "b"}) || !slices.Equal(c["t"], []string{"a"}) {
		t.Error(c)
	}
	r := v.Rows("t")
	if r.Len() != 2 || !slices.Equal(r.Indexes(), []string{"a"}) {
		t.Error(r.Len(), r.Indexes())
	}
	if x, is := r.Get(1); !is || x.Doc != 1 || x.Version != 1 || !value.Same(x.V, num(-7)) {
		t.Error(x, is)
	}
	if x, is := r.Get(4); !is || x.Version != 2 || !value.Same(x.V, num(3)) {
		t.Error(x, is)
	}
	if x, is := r.Get(2); is {
		t.Error(x)
	}
	if x, is := v.Rows("s").Get(3); !is || x.Version != 0 || !value.Same(x.V, num(9)) {
		t.Error(x, is)
	}
}

func TestCatalogOfTablesWithoutIndexes(t *testing.T) {
	v := viewOf(t, blocksOf(made("b"), made("a")))
	c := v.Catalog()
	l, is := c["a"]
	if len(c) != 2 || !is || len(l) != 0 {
		t.Error(c)
	}
	if v.Rows("a") == nil || v.Rows("a").Len() != 0 || v.Rows("A") != nil || v.Rows("") != nil {
		t.Error("Rows")
	}
}

// fitting is a view in which t has documents 1 (version 2) and 3, document 2 is gone, s has document 4; t has an index of a.
func fitting(t *testing.T) *View {
	return viewOf(t, []api.Block{
		blockOf(0, made("t"), made("s"), index("t", "a"), insert("t", 1, num(1)), insert("t", 2, num(2)), insert("t", 3, num(3)), insert("s", 4, num(4))),
		blockOf(1, update("t", 1, 1, num(10)), update("t", 1, 2, num(20)), remove("t", 2, 1)),
	})
}

func TestRevisionsThatFit(t *testing.T) {
	empty := value.Struct(nil, nil)
	for what, r := range map[string]api.Rev{
		"a table":                         made("u"),
		"a name in other letters":         made("T"),
		"an index":                        index("t", "b"),
		"an index as of another table":    index("s", "a"),
		"an index of a field that is not": index("s", "zz"),
		"insert":                          insert("t", 5, num(1)),
		"insert elsewhere":                insert("s", 5, num(1)),
		"insert of an empty struct":       insert("t", 5, empty),
		"insert, gone":                    gone(insert("t", 5, num(1))),
		"insert, gone, of no struct":      gone(raw(insert("t", 5, num(1)), "xx")),
		"update":                          update("t", 1, 3, num(1)),
		"update of version 0":             update("t", 3, 1, empty),
		"update to the same":              update("t", 1, 3, num(20)),
		"update, gone":                    gone(update("t", 1, 3, num(1))),
		"update elsewhere":                update("s", 4, 1, num(1)),
		"delete":                          remove("t", 1, 3),
		"delete of version 0":             remove("t", 3, 1),
		"delete elsewhere":                remove("s", 4, 1),
	} {
		v := fitting(t)
		if e := v.Apply(blockOf(2, r)); e != api.OK || v.Seq() != 3 {
			t.Errorf("%s: %d", what, e)
		}
	}
}

// wrong is revisions that may be (layer 9) and do not fit the view that fitting makes.
func wrong() map[string]api.Rev {
	return map[string]api.Rev{
		"a table that is there":           made("t"),
		"an index of no table":            index("u", "a"),
		"an index that is there":          index("t", "a"),
		"insert into no table":            insert("u", 5, num(1)),
		"insert of a number too high":     insert("t", 6, num(1)),
		"insert of what is there":         insert("t", 4, num(1)),
		"insert of what is there, s":      insert("s", 4, num(1)),
		"insert of what went":             insert("t", 2, num(1)),
		"insert of the first number":      insert("t", 1, num(1)),
		"insert of the highest number":    insert("t", math.MaxUint64, num(1)),
		"insert of a wrong number, gone":  gone(insert("t", 6, num(1))),
		"insert of no bytes":              raw(insert("t", 5, num(1)), ""),
		"insert of a number":              insert("t", 5, value.Int(7)),
		"insert of nothing":               insert("t", 5, value.None()),
		"insert of a list":                insert("t", 5, value.List(num(1))),
		"insert of a text":                insert("t", 5, value.Str("a")),
		"insert of bytes that go on":      raw(insert("t", 5, num(1)), bytesOf(num(1))+"\x00"),
		"insert of bytes that end":        raw(insert("t", 5, num(1)), bytesOf(num(1))[:5]),
		"insert of bytes of no kind":      raw(insert("t", 5, num(1)), "\x09"),
		"insert of names that do not":     raw(insert("t", 5, num(1)), "\x06\x02\x01b\x00\x01a\x00"),
		"update in no table":              update("u", 1, 3, num(1)),
		"update in another table":         update("s", 1, 3, num(1)),
		"update of another table's":       update("t", 4, 1, num(1)),
		"update of what went":             update("t", 2, 1, num(1)),
		"update of what went, later":      update("t", 2, 2, num(1)),
		"update of what never was":        update("t", 5, 1, num(1)),
		"update to the same version":      update("t", 1, 2, num(1)),
		"update to a version ahead":       update("t", 1, 1, num(1)),
		"update past a version":           update("t", 1, 4, num(1)),
		"update to the highest version":   update("t", 1, math.MaxUint64, num(1)),
		"update of a wrong version, gone": gone(update("t", 1, 4, num(1))),
		"update of what went, gone":       gone(update("t", 2, 1, num(1))),
		"update of no bytes":              raw(update("t", 1, 3, num(1)), ""),
		"update of a number":              update("t", 1, 3, value.Int(7)),
		"update of bytes that go on":      raw(update("t", 1, 3, num(1)), bytesOf(num(1))+"\x00"),
		"delete in no table":              remove("u", 1, 3),
		"delete in another table":         remove("s", 1, 3),
		"delete of what went":             remove("t", 2, 1),
		"delete of what went, later":      remove("t", 2, 2),
		"delete of what never was":        remove("t", 5, 1),
		"delete at the same version":      remove("t", 1, 2),
		"delete past a version":           remove("t", 1, 4),
	}
}

func TestRevisionsThatDoNotFit(t *testing.T) {
	v := fitting(t)
	ahead := told(v)
	for what, r := range wrong() {
		if e := block.Check(r); e != api.OK {
			t.Fatalf("%s: may not be: %d", what, e)
		}
		if e := v.Apply(blockOf(2, r)); e != api.ErrState {
			t.Errorf("%s: %d", what, e)
		}
		if told(v) != ahead {
			t.Fatalf("%s: something was done", what)
		}
	}
}

// Nothing is done of a block in which one does not fit, wherever it stands, and whatever stands beside it.
func TestBlockIsDoneWholeOrNotAtAll(t *testing.T) {
	good := []api.Rev{
		made("new"), index("new", "a"), insert("new", 5, num(1)), insert("t", 6, num(2)),
		update("t", 6, 1, num(3)), update("t", 1, 3, num(4)), index("t", "b"), remove("t", 3, 1), remove("s", 4, 1),
	}
	v := fitting(t)
	ahead := told(v)
	for what, r := range wrong() {
		for at := range len(good) + 1 {
			revs := slices.Insert(slices.Clone(good), at, r)
			// Behind some of the others it may fit: then it is no wrong one there.
			m := modelOf(t, fitting(t))
			m, want := m.apply(blockOf(2, revs...))
			w := v
			if want == api.OK {
				w = fitting(t)
			}
			if e := w.Apply(blockOf(2, revs...)); e != want {
				t.Fatalf("%s, at %d: %d, want %d", what, at, e, want)
			}
			if want != api.OK && told(v) != ahead {
				t.Fatalf("%s, at %d: something was done", what, at)
			}
			if want == api.OK && told(w) != m.told() {
				t.Fatalf("%s, at %d: something else was done", what, at)
			}
		}
	}
	if e := v.Apply(blockOf(2, good...)); e != api.OK || v.Seq() != 3 || v.Next() != 7 {
		t.Error(e, v.Seq(), v.Next())
	}
}

// modelOf is the model of the history that a view tells: that is all that it needs.
func modelOf(t *testing.T, v *View) model {
	t.Helper()
	var all []api.Past
	for _, name := range v.Tables() {
		all = append(all, v.Past(name)...)
	}
	slices.SortFunc(all, func(a, b api.Past) int { return int(a.Seq)*100 + a.Index - int(b.Seq)*100 - b.Index })
	l := make([]api.Block, v.Seq())
	for _, p := range all {
		l[p.Seq].Seq = p.Seq
		l[p.Seq].Revs = append(l[p.Seq].Revs, p.Rev)
	}
	m := newModel()
	for _, b := range l {
		var e api.Errno
		if m, e = m.apply(b); e != api.OK {
			t.Fatal("the model:", e)
		}
	}
	return m
}

// One behind the other: what a revision does is there for those behind it, and for those alone.
func TestRevisionsOfOneBlockSeeThoseAhead(t *testing.T) {
	for _, x := range []struct {
		what string
		revs []api.Rev
		want api.Errno
	}{
		{"table, index, insert", []api.Rev{made("t"), index("t", "a"), insert("t", 1, num(1))}, api.OK},
		{"index ahead of its table", []api.Rev{index("t", "a"), made("t")}, api.ErrState},
		{"insert ahead of its table", []api.Rev{insert("t", 1, num(1)), made("t")}, api.ErrState},
		{"a table twice", []api.Rev{made("t"), made("t")}, api.ErrState},
		{"two tables", []api.Rev{made("t"), made("s")}, api.OK},
		{"an index twice", []api.Rev{made("t"), index("t", "a"), index("t", "a")}, api.ErrState},
		{"one field of two tables", []api.Rev{made("t"), made("s"), index("t", "a"), index("s", "a")}, api.OK},
		{"numbers that rise", []api.Rev{made("t"), insert("t", 1, num(1)), insert("t", 2, num(1))}, api.OK},
		{"numbers that rise over tables", []api.Rev{made("t"), made("s"), insert("t", 1, num(1)), insert("s", 2, num(1)), insert("t", 3, num(1))}, api.OK},
		{"a number in each table", []api.Rev{made("t"), made("s"), insert("t", 1, num(1)), insert("s", 1, num(1))}, api.ErrState},
		{"a number twice", []api.Rev{made("t"), insert("t", 1, num(1)), insert("t", 1, num(1))}, api.ErrState},
		{"numbers that fall", []api.Rev{made("t"), insert("t", 2, num(1)), insert("t", 1, num(1))}, api.ErrState},
		{"insert, update, update", []api.Rev{made("t"), insert("t", 1, num(1)), update("t", 1, 1, num(2)), update("t", 1, 2, num(3))}, api.OK},
		{"update ahead of its insert", []api.Rev{made("t"), update("t", 1, 1, num(2)), insert("t", 1, num(1))}, api.ErrState},
		{"one version twice", []api.Rev{made("t"), insert("t", 1, num(1)), update("t", 1, 1, num(2)), update("t", 1, 1, num(3))}, api.ErrState},
		{"versions that fall", []api.Rev{made("t"), insert("t", 1, num(1)), update("t", 1, 2, num(2)), update("t", 1, 1, num(3))}, api.ErrState},
		{"insert, delete", []api.Rev{made("t"), insert("t", 1, num(1)), remove("t", 1, 1)}, api.OK},
		{"insert, update, delete", []api.Rev{made("t"), insert("t", 1, num(1)), update("t", 1, 1, num(1)), remove("t", 1, 2)}, api.OK},
		{"delete twice", []api.Rev{made("t"), insert("t", 1, num(1)), remove("t", 1, 1), remove("t", 1, 1)}, api.ErrState},
		{"delete, later again", []api.Rev{made("t"), insert("t", 1, num(1)), remove("t", 1, 1), remove("t", 1, 2)}, api.ErrState},
		{"update of what went", []api.Rev{made("t"), insert("t", 1, num(1)), remove("t", 1, 1), update("t", 1, 2, num(1))}, api.ErrState},
		{"insert of what went", []api.Rev{made("t"), insert("t", 1, num(1)), remove("t", 1, 1), insert("t", 1, num(1))}, api.ErrState},
		{"insert behind what went", []api.Rev{made("t"), insert("t", 1, num(1)), remove("t", 1, 1), insert("t", 2, num(1))}, api.OK},
	} {
		// In one block, and in a block each: that comes to the same.
		v := New()
		if e := v.Apply(blockOf(0, x.revs...)); e != x.want {
			t.Errorf("%s: %d", x.what, e)
		}
		w, e := Of(blocksOf(x.revs...))
		if e != x.want {
			t.Errorf("%s, in blocks: %d", x.what, e)
		}
		if x.want != api.OK {
			if told(v) != told(New()) || w != nil {
				t.Errorf("%s: something was done", x.what)
			}
			continue
		}
		for _, name := range w.Tables() {
			a, b := v.Rows(name), w.Rows(name)
			if a.Len() != b.Len() || !slices.Equal(a.Indexes(), b.Indexes()) || len(v.Past(name)) != len(w.Past(name)) {
				t.Errorf("%s: unlike tables %s", x.what, name)
			}
		}
		if v.Next() != w.Next() || v.Seq() != 1 || w.Seq() != uint64(len(x.revs)) {
			t.Errorf("%s: %d, %d", x.what, v.Next(), w.Next())
		}
	}
}

func TestWhichErrorComesFirst(t *testing.T) {
	bad := api.Rev{Op: 9, Table: "t"}
	misfit := insert("t", 9, num(1))
	for _, x := range []struct {
		what string
		v    *View
		b    api.Block
		want api.Errno
	}{
		{"nil", nil, blockOf(7, bad), api.ErrArg},
		{"nil, and nothing else", nil, blockOf(0, made("t")), api.ErrArg},
		{"a Seq too high", New(), blockOf(1, made("t")), api.ErrState},
		{"the highest Seq", New(), blockOf(math.MaxUint64, made("t")), api.ErrState},
		{"a Seq ahead", fitting(t), blockOf(1, made("u")), api.ErrState},
		{"the first Seq again", fitting(t), blockOf(0, made("u")), api.ErrState},
		{"a Seq behind", fitting(t), blockOf(3, made("u")), api.ErrState},
		{"Seq ahead of Check", fitting(t), blockOf(3, bad), api.ErrState},
		{"Check", fitting(t), blockOf(2, bad), api.ErrForm},
		{"Check behind what fits", fitting(t), blockOf(2, made("u"), bad), api.ErrForm},
		{"Check ahead of a misfit", fitting(t), blockOf(2, bad, misfit), api.ErrForm},
		{"Check of one behind a misfit", fitting(t), blockOf(2, misfit, bad), api.ErrForm},
		{"a misfit", fitting(t), blockOf(2, misfit), api.ErrState},
	} {
		ahead := told(x.v)
		if e := x.v.Apply(x.b); e != x.want {
			t.Errorf("%s: %d, want %d", x.what, e, x.want)
		}
		if told(x.v) != ahead {
			t.Errorf("%s: something was done", x.what)
		}
	}
}

// Revisions that may not be (layer 9) are refused with its error, also where they would fit.
func TestRevisionsThatMayNotBe(t *testing.T) {
	changed := func(r api.Rev, f func(r *api.Rev)) api.Rev { f(&r); return r }
	v := fitting(t)
	ahead := told(v)
	for what, r := range map[string]api.Rev{
		"no operation":          {Table: "u"},
		"an operation below":    {Op: -1, Table: "u"},
		"no name":               {Op: api.OpTable},
		"a name that is none":   made("a b"),
		"a name too long":       made(strings.Repeat("a", api.MaxName+1)),
		"a field that is none":  index("t", "1"),
		"a table with a field":  {Op: api.OpTable, Table: "u", Field: "a"},
		"insert of number 0":    insert("t", 0, num(1)),
		"insert of a version":   changed(insert("t", 5, num(1)), func(r *api.Rev) { r.Version = 1 }),
		"update to version 0":   update("t", 1, 0, num(1)),
		"delete at version 0":   remove("t", 1, 0),
		"a hash of other bytes": changed(insert("t", 5, num(1)), func(r *api.Rev) { r.Body = bytesOf(num(2)) }),
		"no hash":               changed(insert("t", 5, num(1)), func(r *api.Rev) { r.Hash = "" }),
		"gone, with bytes":      changed(insert("t", 5, num(1)), func(r *api.Rev) { r.Gone = true }),
		"gone, without a hash":  changed(gone(insert("t", 5, num(1))), func(r *api.Rev) { r.Hash = "" }),
		"delete with bytes":     changed(remove("t", 1, 3), func(r *api.Rev) { r.Body = bytesOf(num(1)) }),
		"delete that is gone":   changed(remove("t", 1, 3), func(r *api.Rev) { r.Gone = true }),
		"bytes too many":        raw(insert("t", 5, num(1)), strings.Repeat("a", api.MaxValue+1)),
	} {
		want := block.Check(r)
		if want == api.OK {
			t.Fatalf("%s: it may be", what)
		}
		if e := v.Apply(blockOf(2, r)); e != want {
			t.Errorf("%s: %d, want %d", what, e, want)
		}
		if told(v) != ahead {
			t.Fatalf("%s: something was done", what)
		}
	}
}

// Only what the chapter names is asked of a block: not its place in the chain, nor how many revisions it has.
func TestWhatIsNotAskedOfABlock(t *testing.T) {
	v := New()
	if e := v.Apply(api.Block{Prev: "anything", Tx: 77, Revs: []api.Rev{made("t")}}); e != api.OK {
		t.Error(e)
	}
	if e := v.Apply(api.Block{Seq: 1}); e != api.OK || v.Seq() != 2 {
		t.Error(e, v.Seq())
	}
	var many []api.Rev
	for i := range api.MaxRevs + 10 {
		many = append(many, insert("t", uint64(i+1), num(int64(i))))
	}
	if e := v.Apply(blockOf(2, many...)); e != api.OK || v.Next() != api.MaxRevs+11 || v.Rows("t").Len() != api.MaxRevs+10 {
		t.Error(e, v.Next())
	}
}

func TestGoneBodies(t *testing.T) {
	v := viewOf(t, []api.Block{
		blockOf(0, made("t"), index("t", "a"), gone(insert("t", 1, num(5))), insert("t", 2, num(-1))),
		blockOf(1, insert("t", 3, num(1)), gone(update("t", 3, 1, num(7)))),
	})
	r := v.Rows("t")
	for doc, version := range map[uint64]uint64{1: 0, 3: 1} {
		x, is := r.Get(doc)
		if !is || x.Version != version || !value.Same(x.V, value.None()) {
			t.Error(doc, x, is)
		}
	}
	var l []uint64
	for x := range r.Range("a", keys.Equal(value.None())) {
		l = append(l, x.Doc)
	}
	if !slices.Equal(l, []uint64{1, 3}) {
		t.Error("by what is nothing:", l)
	}
	if p := v.Past("t"); !p[2].Rev.Gone || p[2].Rev.Hash != insert("t", 1, num(5)).Hash || v.Erase(0, 2) {
		t.Error("the history")
	}
	if e := v.Apply(blockOf(2, update("t", 1, 1, num(6)), remove("t", 3, 2))); e != api.OK {
		t.Fatal(e)
	}
	if x, is := v.Rows("t").Get(1); !is || x.Version != 1 || !value.Same(x.V, num(6)) || v.Rows("t").Len() != 2 {
		t.Error(x, is)
	}
}

// Numbers are those of all tables together, and none comes again.
func TestNext(t *testing.T) {
	v := New()
	l := []api.Rev{
		made("t"), made("s"), insert("t", 1, num(1)), insert("s", 2, num(1)), remove("s", 2, 1),
		insert("s", 3, num(1)), remove("t", 1, 1), update("s", 3, 1, num(4)), gone(insert("t", 4, num(1))),
	}
	want := []uint64{1, 1, 2, 3, 3, 4, 4, 4, 5}
	for i, b := range blocksOf(l...) {
		if e := v.Apply(b); e != api.OK || v.Next() != want[i] || v.Seq() != uint64(i+1) {
			t.Fatal(i, e, v.Next(), v.Seq())
		}
	}
}

func TestOf(t *testing.T) {
	for _, l := range [][]api.Block{nil, {}} {
		if v := viewOf(t, l); told(v) != told(New()) {
			t.Error(told(v))
		}
	}
	// T1: the view of blocks is what they come to one behind the other.
	v := New()
	for i, b := range busy() {
		v.Apply(b)
		if got := told(viewOf(t, busy()[:i+1])); got != told(v) {
			t.Errorf("of %d blocks:\n%s\nwant:\n%s", i+1, got, told(v))
		}
	}
	for i := range busy() {
		for what, x := range map[string]struct {
			spoil func(l []api.Block)
			want  api.Errno
		}{
			"Seq":    {func(l []api.Block) { l[i].Seq += 5 }, api.ErrState},
			"Check":  {func(l []api.Block) { l[i].Revs[0].Table = "" }, api.ErrForm},
			"misfit": {func(l []api.Block) { l[i].Revs = append(l[i].Revs, made("t"), made("t")) }, api.ErrState},
			"two errors": {func(l []api.Block) {
				l[i].Revs[0].Table = ""
				if i+1 < len(l) {
					l[i+1].Seq = 0
				}
			}, api.ErrForm},
		} {
			l := busy()
			x.spoil(l)
			if w, e := Of(l); e != x.want || w != nil {
				t.Errorf("%s of block %d: %v, %d", what, i, w, e)
			}
		}
	}
	l := busy()
	if w, e := Of(l[1:]); e != api.ErrState || w != nil {
		t.Error("without the first one:", e)
	}
	if w, e := Of(append(l, l[3])); e != api.ErrState || w != nil {
		t.Error("the last one twice:", e)
	}
}

func TestPast(t *testing.T) {
	l := busy()
	v := viewOf(t, l)
	for name, want := range map[string][][2]int{
		"t": {{0, 0}, {0, 1}, {1, 0}, {1, 1}, {2, 1}, {2, 2}, {3, 0}, {3, 1}, {3, 2}},
		"s": {{1, 2}, {2, 0}, {3, 3}, {3, 4}},
		"u": nil, "": nil, "T": nil,
	} {
		got := v.Past(name)
		if len(got) != len(want) {
			t.Errorf("%q: %d revisions", name, len(got))
			continue
		}
		for i, p := range got {
			at := want[i]
			if p.Seq != uint64(at[0]) || p.Index != at[1] || p.Rev != l[at[0]].Revs[at[1]] {
				t.Errorf("%q, %d: %v", name, i, p)
			}
		}
	}
}

func TestErase(t *testing.T) {
	l := busy()
	for seq, b := range l {
		for at, r := range b.Revs {
			v := viewOf(t, l)
			rowsAhead := v.Rows(r.Table)
			early := v.Past(r.Table)
			was := r.Body != ""
			if v.Erase(uint64(seq), at) != was {
				t.Fatalf("%d, %d: not %v", seq, at, was)
			}
			if v.Erase(uint64(seq), at) {
				t.Fatalf("%d, %d: again", seq, at)
			}
			for _, name := range v.Tables() {
				for _, p := range v.Past(name) {
					want := l[p.Seq].Revs[p.Index]
					if was && p.Seq == uint64(seq) && p.Index == at {
						want.Body, want.Gone = "", true
					}
					if p.Rev != want {
						t.Errorf("%d, %d: the history has %v, want %v", seq, at, p.Rev, want)
					}
					if block.RevHash(p.Rev) != block.RevHash(l[p.Seq].Revs[p.Index]) {
						t.Error("another digest")
					}
				}
			}
			for _, p := range early {
				if p.Rev != l[p.Seq].Revs[p.Index] {
					t.Error("what was told ahead is changed")
				}
			}
			// The tables, and what comes behind, are as ever.
			if v.Seq() != 4 || v.Next() != 5 || len(v.Catalog()) != 2 {
				t.Error(v.Seq(), v.Next())
			}
			for x := range rowsAhead.All() {
				y, is := v.Rows(r.Table).Get(x.Doc)
				if !is || row(x) != row(y) {
					t.Errorf("%d, %d: document %d is %v", seq, at, x.Doc, y)
				}
			}
			if e := v.Apply(blockOf(4, update("t", 1, 2, num(1)), remove("t", 4, 3), insert("s", 5, num(1)))); e != api.OK {
				t.Error(e)
			}
		}
	}
}

func TestEraseOfWhatIsNot(t *testing.T) {
	v := viewOf(t, busy())
	ahead := told(v)
	for _, x := range []struct {
		seq   uint64
		index int
	}{
		{0, -1}, {0, 2}, {0, 0}, {1, 0}, {1, 2}, {2, 2}, {3, 5}, {3, 3}, {4, 0}, {4, 1},
		{0, math.MaxInt}, {0, math.MinInt}, {math.MaxUint64, 1}, {math.MaxUint64, math.MaxInt}, {1 << 63, 0},
	} {
		if v.Erase(x.seq, x.index) {
			t.Error(x)
		}
	}
	if told(v) != ahead {
		t.Error("something was taken out")
	}
}

// T4: of a revision behind which others are, the view of the blocks without its bytes is the view from which they were taken out.
func TestEraseIsTheFoldOfBlocksWithoutTheBytes(t *testing.T) {
	l := busy()
	v := viewOf(t, l)
	for _, x := range []struct {
		seq uint64
		at  int
	}{{0, 1}, {1, 1}, {3, 0}, {3, 1}} {
		b, e := block.Without(l[x.seq], x.at)
		if e != api.OK {
			t.Fatal(e)
		}
		l[x.seq] = b
		if !v.Erase(x.seq, x.at) {
			t.Fatal(x)
		}
		if got, want := told(v), told(viewOf(t, l)); got != want {
			t.Errorf("%v:\n%s\nwant:\n%s", x, got, want)
		}
		if s := fmt.Sprintf("%q", told(v)); strings.Contains(s, fmt.Sprintf("%q", busy()[x.seq].Revs[x.at].Body)) {
			t.Error("the bytes are told still")
		}
	}
}

func TestNilView(t *testing.T) {
	var v *View
	for range 2 {
		if v.Seq() != 0 || v.Next() != 0 || v.Tables() != nil || v.Rows("t") != nil || v.Catalog() != nil {
			t.Error("something")
		}
		if v.Past("t") != nil || v.Erase(0, 0) || v.Apply(blockOf(0, made("t"))) != api.ErrArg || v.Apply(api.Block{}) != api.ErrArg {
			t.Error("something")
		}
	}
}

// R1: a view that New did not make answers like one that it made.
func TestViewThatNewDidNotMake(t *testing.T) {
	if got, want := told(new(View)), told(New()); got != want {
		t.Error(got)
	}
	var v View
	if v.Erase(0, 0) || v.Past("t") != nil || v.Rows("t") != nil {
		t.Error("something")
	}
	for _, b := range busy() {
		if e := v.Apply(b); e != api.OK {
			t.Fatal(e)
		}
	}
	if told(&v) != told(viewOf(t, busy())) {
		t.Error("unlike")
	}
}

// spoil changes everything that hangs on a value.
func spoil(v api.Value) {
	for i := range v.Names {
		v.Names[i] = "spoilt"
	}
	for i := range v.Parts {
		spoil(v.Parts[i])
		v.Parts[i] = value.Str("spoilt")
	}
}

// R2: what is answered is the caller's own.
func TestWhatIsHandedOutMayBeChangedLater(t *testing.T) {
	v := viewOf(t, busy())
	ahead := told(v)
	for range 2 {
		c := v.Catalog()
		c["t"][0] = "spoilt"
		c["s"] = append(c["s"], "more")
		delete(c, "t")
		c["u"] = nil
		l := v.Tables()
		l[0] = "spoilt"
		p := v.Past("t")
		for i := range p {
			p[i] = api.Past{}
		}
		_ = append(v.Past("s")[:1], api.Past{Seq: 9})
		r := v.Rows("t")
		for x := range r.All() {
			spoil(x.V)
		}
		r.Drop(1)
		r.Put(api.Row{Doc: 70, V: num(70)})
		r.Put(api.Row{Doc: 4, V: num(71)})
		r.AddIndex("b")
		if told(v) != ahead {
			t.Fatal("what was told is not the caller's own")
		}
	}
	// Also the other way: what the view does later is not seen in what was told.
	r, p, c := v.Rows("t"), v.Past("t"), v.Catalog()
	if e := v.Apply(blockOf(4, remove("t", 1, 2), insert("t", 5, num(5)), index("t", "b"), update("t", 4, 3, num(44)))); e != api.OK {
		t.Fatal(e)
	}
	v.Erase(0, 1)
	x, is := r.Get(4)
	if r.Len() != 2 || len(r.Indexes()) != 1 || !is || x.Version != 2 || len(p) != 9 || p[1].Rev.Gone || len(c["t"]) != 1 {
		t.Error(r.Len(), r.Indexes(), x, len(p), c)
	}
	// And what is done to that leaves the view as it is.
	now := told(v)
	r.Put(api.Row{Doc: 5, V: num(99)})
	r.Drop(4)
	if told(v) != now {
		t.Error("an old table is the view's")
	}
}

// R2: what is handed in is not changed, and may be changed later.
func TestWhatIsHandedInMayBeChangedLater(t *testing.T) {
	l := busy()
	v := viewOf(t, l)
	ahead := told(v)
	if fmt.Sprint(l) != fmt.Sprint(busy()) {
		t.Error("what was handed in is changed")
	}
	v.Erase(0, 1)
	if fmt.Sprint(l) != fmt.Sprint(busy()) {
		t.Error("what was handed in is changed by Erase")
	}
	v = viewOf(t, l)
	for i := range l {
		for k := range l[i].Revs {
			l[i].Revs[k] = api.Rev{Table: "spoilt"}
		}
		l[i] = api.Block{}
	}
	if told(v) != ahead {
		t.Error("what is handed in is the view's")
	}
}

// guess is a revision that may fit, by chance, and may not.
func guess(r *rand.Rand, m *model) api.Rev {
	table := string(rune('p' + r.Intn(4)))
	field := string(rune('a' + r.Intn(3)))
	doc, version := uint64(1+r.Intn(int(m.next)+1)), uint64(1+r.Intn(3))
	if r.Intn(4) > 0 && len(m.docs) > 0 {
		d := m.docs[r.Intn(len(m.docs))]
		table, doc, version = d.table, d.row.Doc, d.row.Version+1
	}
	var x api.Rev
	switch r.Intn(12) {
	case 0:
		return made(table)
	case 1:
		return index(table, field)
	case 2, 3:
		return remove(table, doc, version)
	case 4, 5, 6, 7:
		if r.Intn(6) > 0 {
			doc = m.next
		}
		x = insert(table, doc, num(int64(r.Intn(9))))
	default:
		x = update(table, doc, version, num(int64(r.Intn(9))))
	}
	if r.Intn(10) == 0 {
		x = gone(x)
	}
	return x
}

// attempt is a block whose revisions mostly fit: one that does not is mostly let be.
func attempt(r *rand.Rand, m model) api.Block {
	n := m.copied()
	b := api.Block{Seq: m.seq, Tx: uint64(r.Intn(9))}
	if r.Intn(20) == 0 {
		b.Seq++
	}
	for range 1 + r.Intn(8) {
		before := n.copied()
		x := guess(r, &n)
		if n.step(x) || r.Intn(40) == 0 {
			b.Revs = append(b.Revs, x)
			continue
		}
		n = before
	}
	return b
}

func TestManyBlocksAgainstThePlainFold(t *testing.T) {
	for seed := range int64(12) {
		r := rand.New(rand.NewSource(seed))
		v, m := New(), newModel()
		var kept []api.Block
		fits, fails := 0, 0
		for range 120 {
			b := attempt(r, m)
			n, want := m.apply(b)
			if e := v.Apply(b); e != want {
				t.Fatalf("seed %d, block %d: %d, want %d", seed, b.Seq, e, want)
			}
			m = n
			if want == api.OK {
				fits++
				kept = append(kept, b)
			} else {
				fails++
			}
			if len(m.past) > 0 && r.Intn(3) == 0 {
				at := r.Intn(len(m.past))
				p := &m.past[at].past
				was := p.Rev.Body != ""
				if v.Erase(p.Seq, p.Index) != was {
					t.Fatal("Erase", p)
				}
				if was {
					p.Rev.Body, p.Rev.Gone = "", true
				}
			}
			if got, want := told(v), m.told(); got != want {
				t.Fatalf("seed %d:\n%s\nwant:\n%s", seed, got, want)
			}
		}
		if fits < 50 || fails < 2 {
			t.Error("seed", seed, "tells little:", fits, fails)
		}
		if w := viewOf(t, kept); w.Seq() != v.Seq() || w.Next() != v.Next() || !slices.Equal(w.Tables(), v.Tables()) {
			t.Error("seed", seed, "Of")
		}
	}
}

// R4: the same calls in the same order answer the same, whatever order maps are gone over in.
func TestTheSameCallsAnswerTheSame(t *testing.T) {
	run := func() string {
		r := rand.New(rand.NewSource(3))
		v, m := New(), newModel()
		for range 60 {
			b := attempt(r, m)
			m, _ = m.apply(b)
			v.Apply(b)
		}
		return told(v)
	}
	first := run()
	for range 5 {
		if run() != first {
			t.Fatal("another answer")
		}
	}
}

// A block touches only what it speaks of, and a table that is only looked at is not copied.
func TestManyDocuments(t *testing.T) {
	const n = 4000
	v := viewOf(t, []api.Block{blockOf(0, made("t"), index("t", "a"), index("t", "b"))})
	for i := range uint64(n) {
		if e := v.Apply(blockOf(i+1, insert("t", i+1, num(int64(i))))); e != api.OK {
			t.Fatal(e)
		}
	}
	looked := testing.AllocsPerRun(20, func() {
		if x, is := v.Rows("t").Get(n / 2); !is || x.Doc != n/2 {
			t.Error(x, is)
		}
	})
	refused := testing.AllocsPerRun(20, func() {
		if e := v.Apply(blockOf(n+1, remove("t", 7, 1), remove("t", 7, 1))); e != api.ErrState {
			t.Error(e)
		}
	})
	if looked > 50 || refused > 300 {
		t.Error("too much memory:", looked, refused)
	}
	if e := v.Apply(blockOf(n+1, remove("t", 7, 1))); e != api.OK || v.Rows("t").Len() != n-1 || len(v.Past("t")) != n+4 {
		t.Error(e)
	}
	if !v.Erase(n, 0) || !v.Past("t")[n+2].Rev.Gone {
		t.Error("Erase")
	}
}
