package buffer

import (
	"fmt"
	"math"
	"slices"
	"strings"
	"testing"

	"parchment/api"
	"parchment/block"
	"parchment/keys"
	"parchment/value"
	"parchment/views"
)

// Example 1.
func TestInsertThenDelete(t *testing.T) {
	b := New(committed(t))
	n := mustInsert(t, b, "t", num(1))
	may(t, b.Delete("t", n))
	if x, ok := b.Get("t", n); ok || !alikeRow(x, api.Row{}) {
		t.Error(x, ok)
	}
	wantRows(t, "All", b.All("t"))
	wantRows(t, "Range", b.Range("t", "a", keys.All()))
	wantRevs(t, "Revs", b.Revs(), insert("t", n, num(1)), remove("t", n, 1))
}

func TestNewSeesWhatIsCommitted(t *testing.T) {
	v := committed(t, 30, 10, 20)
	b := New(v)
	wantCatalog(t, "Catalog", b.Catalog(), api.Catalog{"t": {"a"}})
	wantRows(t, "All", b.All("t"), row(1, 0, num(30)), row(2, 0, num(10)), row(3, 0, num(20)))
	wantRows(t, "Range", b.Range("t", "a", keys.All()), row(2, 0, num(10)), row(3, 0, num(20)), row(1, 0, num(30)))
	wantRevs(t, "Revs", b.Revs())
	if x, ok := b.Get("t", 2); !ok || !alikeRow(x, row(2, 0, num(10))) {
		t.Error(x, ok)
	}
	for _, n := range []uint64{0, 4, api.OwnDoc, math.MaxUint64} {
		if x, ok := b.Get("t", n); ok || !alikeRow(x, api.Row{}) {
			t.Errorf("Get(%d): %v, %v", n, x, ok)
		}
	}
	if _, ok := b.Get("u", 2); ok {
		t.Error("a document of another table")
	}
	wantRows(t, "no such table", b.All("u"))
	wantRows(t, "no such table", b.Range("u", "a", keys.All()))
	wantRows(t, "no such index", b.Range("t", "b", keys.All()))
}

func TestTable(t *testing.T) {
	b := New(committed(t))
	for _, name := range badNames() {
		wantErr(t, fmt.Sprintf("%q", name), b.Table(name), api.ErrArg)
	}
	wantErr(t, "a committed one", b.Table("t"), api.ErrTwice)
	for _, name := range []string{"u", "T", "_", "a1", strings.Repeat("n", api.MaxName)} {
		wantErr(t, name, b.Table(name), api.OK)
		wantErr(t, name+" again", b.Table(name), api.ErrTwice)
	}
	wantCatalog(t, "Catalog", b.Catalog(), api.Catalog{"t": {"a"}, "u": nil, "T": nil, "_": nil, "a1": nil, strings.Repeat("n", api.MaxName): nil})
	wantRevs(t, "Revs", b.Revs(), made("u"), made("T"), made("_"), made("a1"), made(strings.Repeat("n", api.MaxName)))
}

func TestIndex(t *testing.T) {
	b := New(committed(t))
	for _, name := range badNames() {
		wantErr(t, fmt.Sprintf("a field %q", name), b.Index("t", name), api.ErrArg)
		wantErr(t, fmt.Sprintf("a field %q, no table", name), b.Index("u", name), api.ErrArg)
		wantErr(t, fmt.Sprintf("a table %q", name), b.Index(name, "a"), api.ErrArg)
	}
	wantErr(t, "no table", b.Index("u", "a"), api.ErrTable)
	wantErr(t, "a committed one", b.Index("t", "a"), api.ErrTwice)
	may(t, b.Table("u"))
	for _, field := range []string{"b", "_", "A"} {
		for _, table := range []string{"t", "u"} {
			wantErr(t, table+" "+field, b.Index(table, field), api.OK)
			wantErr(t, table+" "+field+" again", b.Index(table, field), api.ErrTwice)
		}
	}
	wantErr(t, "another table's", b.Index("u", "a"), api.OK)
	wantCatalog(t, "rising", b.Catalog(), api.Catalog{"t": {"A", "_", "a", "b"}, "u": {"A", "_", "a", "b"}})
	wantRevs(t, "Revs", b.Revs(), made("u"), index("t", "b"), index("u", "b"), index("t", "_"), index("u", "_"), index("t", "A"), index("u", "A"), index("u", "a"))
}

func TestInsert(t *testing.T) {
	b := New(committed(t, 1, 2))
	for _, v := range noStructs() {
		for _, table := range []string{"t", "u", ""} {
			if n, e := b.Insert(table, v); n != 0 || e != api.ErrArg {
				t.Errorf("%v into %q: %d, error %d", v, table, n, e)
			}
		}
	}
	for _, x := range badStructs() {
		if n, e := b.Insert("u", x.v); n != 0 || e != api.ErrTable {
			t.Errorf("%s, no table: %d, error %d", x.what, n, e)
		}
		if n, e := b.Insert("t", x.v); n != 0 || e != x.e {
			t.Errorf("%s: %d, error %d, want %d", x.what, n, e, x.e)
		}
	}
	for _, table := range append(badNames(), "u", "T") {
		if n, e := b.Insert(table, num(1)); n != 0 || e != api.ErrTable {
			t.Errorf("into %q: %d, error %d", table, n, e)
		}
	}
	may(t, b.Table("u"))
	for i, table := range []string{"t", "u", "t", "u"} {
		if n, e := b.Insert(table, num(int64(i))); n != api.OwnDoc+uint64(i) || e != api.OK {
			t.Errorf("%d: %d, error %d", i, n, e)
		}
	}
	may(t, b.Delete("t", api.OwnDoc+2))
	if n, e := b.Insert("t", of()); n != api.OwnDoc+4 || e != api.OK {
		t.Errorf("the number of one that went is not given again: %d, error %d", n, e)
	}
	wantRows(t, "t", b.All("t"), row(1, 0, num(1)), row(2, 0, num(2)), row(api.OwnDoc, 0, num(0)), row(api.OwnDoc+4, 0, of()))
	wantRows(t, "u", b.All("u"), row(api.OwnDoc+1, 0, num(1)), row(api.OwnDoc+3, 0, num(3)))
	if x, ok := b.Get("t", api.OwnDoc+1); ok {
		t.Error("a document of another table", x)
	}
}

func TestUpdate(t *testing.T) {
	b := New(committed(t, 1, 2))
	own := mustInsert(t, b, "t", num(3))
	may(t, b.Table("u"))
	for _, v := range noStructs() {
		for _, n := range []uint64{1, own, 9} {
			wantErr(t, fmt.Sprint(v, " in the place of ", n), b.Update("t", n, v), api.ErrArg)
		}
	}
	for _, x := range badStructs() {
		wantErr(t, x.what+", no document", b.Update("t", 9, x.v), api.ErrNone)
		wantErr(t, x.what, b.Update("t", 1, x.v), x.e)
		wantErr(t, x.what+", its own", b.Update("t", own, x.v), x.e)
	}
	for _, n := range []uint64{0, 3, own + 1, math.MaxUint64} {
		wantErr(t, fmt.Sprint("no document ", n), b.Update("t", n, num(0)), api.ErrNone)
	}
	for _, table := range []string{"u", "v", "", "T"} {
		wantErr(t, "not in "+table, b.Update(table, 1, num(0)), api.ErrNone)
		wantErr(t, "its own, not in "+table, b.Update(table, own, num(0)), api.ErrNone)
	}
	for i := range uint64(3) {
		may(t, b.Update("t", 1, num(int64(i))), b.Update("t", own, num(int64(i))))
		for _, n := range []uint64{1, own} {
			if x, ok := b.Get("t", n); !ok || !alikeRow(x, row(n, i+1, num(int64(i)))) {
				t.Errorf("%d, update %d: %v", n, i, x)
			}
		}
	}
	wantRows(t, "All", b.All("t"), row(1, 3, num(2)), row(2, 0, num(2)), row(own, 3, num(2)))
	wantRevs(t, "Revs", b.Revs(), insert("t", own, num(3)), made("u"),
		update("t", 1, 1, num(0)), update("t", own, 1, num(0)),
		update("t", 1, 2, num(1)), update("t", own, 2, num(1)),
		update("t", 1, 3, num(2)), update("t", own, 3, num(2)))
}

func TestDelete(t *testing.T) {
	v := committed(t, 1, 2, 3)
	commit(t, v, update("t", 2, 1, num(5)), update("t", 2, 2, num(2)))
	b := New(v)
	own := mustInsert(t, b, "t", num(4))
	may(t, b.Table("u"), b.Update("t", own, num(5)), b.Update("t", 3, num(6)))
	for _, n := range []uint64{0, 4, own + 1, math.MaxUint64} {
		wantErr(t, fmt.Sprint("no document ", n), b.Delete("t", n), api.ErrNone)
	}
	for _, table := range []string{"u", "v", "", "T"} {
		wantErr(t, "not in "+table, b.Delete(table, 1), api.ErrNone)
		wantErr(t, "its own, not in "+table, b.Delete(table, own), api.ErrNone)
	}
	before := len(b.Revs())
	for _, n := range []uint64{1, 2, 3, own} {
		wantErr(t, fmt.Sprint(n), b.Delete("t", n), api.OK)
		wantErr(t, fmt.Sprint(n, " again"), b.Delete("t", n), api.ErrNone)
		wantErr(t, fmt.Sprint("another one in the place of ", n), b.Update("t", n, num(1)), api.ErrNone)
		if x, ok := b.Get("t", n); ok || !alikeRow(x, api.Row{}) {
			t.Errorf("%d went: %v, %v", n, x, ok)
		}
	}
	wantRows(t, "All", b.All("t"))
	wantRows(t, "Range", b.Range("t", "a", keys.All()))
	wantRevs(t, "Revs", b.Revs()[before:], remove("t", 1, 1), remove("t", 2, 3), remove("t", 3, 2), remove("t", own, 2))
	if v.Rows("t").Len() != 3 {
		t.Error("what is committed is not the transaction's")
	}
}

// full is a buffer that has as many revisions as it may have; t, u and document 1 are there, document 2 is not.
func full(t *testing.T) *Buffer {
	t.Helper()
	b := New(committed(t, 1, 2))
	may(t, b.Table("u"), b.Delete("t", 2))
	for len(b.Revs()) < api.MaxRevs {
		may(t, b.Update("t", 1, num(int64(len(b.Revs())))))
	}
	return b
}

func TestTooManyRevisions(t *testing.T) {
	b := full(t)
	if len(b.Revs()) != 64 {
		t.Fatal(len(b.Revs()))
	}
	ahead := told(b)
	for range 2 {
		wantErr(t, "Table", b.Table("v"), api.ErrLimit)
		wantErr(t, "Table, no name", b.Table("1"), api.ErrArg)
		wantErr(t, "Table, twice", b.Table("u"), api.ErrTwice)
		wantErr(t, "Index", b.Index("u", "a"), api.ErrLimit)
		wantErr(t, "Index, no name", b.Index("u", ""), api.ErrArg)
		wantErr(t, "Index, no table", b.Index("v", "a"), api.ErrTable)
		wantErr(t, "Index, twice", b.Index("t", "a"), api.ErrTwice)
		for _, x := range append(badStructs(), bad{"what may be", num(1), api.ErrLimit}) {
			if n, e := b.Insert("t", x.v); n != 0 || e != x.e {
				t.Errorf("Insert, %s: %d, error %d", x.what, n, e)
			}
			wantErr(t, "Update, "+x.what, b.Update("t", 1, x.v), x.e)
		}
		if n, e := b.Insert("v", num(1)); n != 0 || e != api.ErrTable {
			t.Errorf("Insert, no table: %d, error %d", n, e)
		}
		if n, e := b.Insert("t", value.None()); n != 0 || e != api.ErrArg {
			t.Errorf("Insert, no struct: %d, error %d", n, e)
		}
		wantErr(t, "Update, no struct", b.Update("t", 2, value.None()), api.ErrArg)
		wantErr(t, "Update, no document", b.Update("t", 2, num(1)), api.ErrNone)
		wantErr(t, "Delete", b.Delete("t", 1), api.ErrLimit)
		wantErr(t, "Delete, no document", b.Delete("t", 2), api.ErrNone)
		if now := told(b); now != ahead {
			t.Fatalf("an error changes something:\n%s\nwas\n%s", now, ahead)
		}
		b = b.Clone()
	}
}

// Revisions of each kind may be the last one, and none is behind it.
func TestTheLastRevision(t *testing.T) {
	last := map[string]func(b *Buffer) api.Errno{
		"Table":  func(b *Buffer) api.Errno { return b.Table("u") },
		"Index":  func(b *Buffer) api.Errno { return b.Index("t", "b") },
		"Insert": func(b *Buffer) api.Errno { _, e := b.Insert("t", num(1)); return e },
		"Update": func(b *Buffer) api.Errno { return b.Update("t", 1, num(1)) },
		"Delete": func(b *Buffer) api.Errno { return b.Delete("t", 1) },
	}
	for what, f := range last {
		b := New(committed(t, 1, 2))
		for range api.MaxRevs - 1 {
			mustInsert(t, b, "t", num(1))
		}
		wantErr(t, what, f(b), api.OK)
		wantErr(t, what+", one more", b.Delete("t", 2), api.ErrLimit)
		if len(b.Revs()) != api.MaxRevs {
			t.Error(what, len(b.Revs()))
		}
	}
}

func TestErrorsChangeNothing(t *testing.T) {
	b := New(committed(t, 1, 2))
	own := mustInsert(t, b, "t", num(3))
	may(t, b.Table("u"), b.Index("u", "b"), b.Delete("t", 2))
	ahead := told(b)
	for _, name := range badNames() {
		b.Table(name)
		b.Index("t", name)
		b.Index(name, "b")
		b.Insert(name, num(1))
		b.Update(name, 1, num(1))
		b.Delete(name, 1)
	}
	for _, x := range badStructs() {
		b.Insert("t", x.v)
		b.Insert("v", x.v)
		b.Update("t", 1, x.v)
		b.Update("t", own, x.v)
	}
	b.Table("t")
	b.Table("u")
	b.Index("t", "a")
	b.Index("u", "b")
	b.Index("v", "b")
	b.Insert("t", value.Int(1))
	b.Update("t", 2, num(1))
	b.Update("u", 1, num(1))
	b.Delete("t", 2)
	b.Delete("u", own)
	if now := told(b); now != ahead {
		t.Errorf("an error changes something:\n%s\nwas\n%s", now, ahead)
	}
	if n := mustInsert(t, b, "t", num(3)); n != own+1 {
		t.Error("an error takes a number", n)
	}
}

func TestRevsAreSealed(t *testing.T) {
	b := New(committed(t, 1))
	own := mustInsert(t, b, "t", num(3))
	may(t, b.Table("u"), b.Index("u", "b"), b.Update("t", own, num(4)), b.Update("t", 1, of()), b.Delete("t", 1))
	l := b.Revs()
	for i, r := range l {
		if r != block.Sealed(r) || block.Check(r) != api.OK {
			t.Errorf("%d: %v", i, r)
		}
	}
	if len(l) != 6 || l[0].Hash == "" || l[3].Hash == "" || l[3].Hash == l[0].Hash || l[5].Hash != "" {
		t.Error(l)
	}
}

// What is committed may be another one each time that it is asked.
func TestOverWhatIsCommittedSince(t *testing.T) {
	v := committed(t, 10, 20, 30, 40)
	b := New(v)
	own := mustInsert(t, b, "t", num(25))
	may(t, b.Update("t", 2, num(21)), b.Delete("t", 3))
	commit(t, v, insert("t", 5, num(15)), update("t", 1, 1, num(26)), remove("t", 4, 1), made("u"), index("t", "b"), insert("u", 6, num(1)))
	commit(t, v, update("t", 2, 1, num(99)), update("t", 3, 1, num(98)))
	wantCatalog(t, "Catalog", b.Catalog(), api.Catalog{"t": {"a", "b"}, "u": nil})
	wantRows(t, "All", b.All("t"), row(1, 1, num(26)), row(2, 1, num(21)), row(5, 0, num(15)), row(own, 0, num(25)))
	wantRows(t, "Range", b.Range("t", "a", keys.All()), row(5, 0, num(15)), row(2, 1, num(21)), row(own, 0, num(25)), row(1, 1, num(26)))
	wantRows(t, "by b", b.Range("t", "b", keys.All()), row(1, 1, num(26)), row(2, 1, num(21)), row(5, 0, num(15)), row(own, 0, num(25)))
	wantRows(t, "u", b.All("u"), row(6, 0, num(1)))
	wantErr(t, "a table that came", b.Table("u"), api.ErrTwice)
	wantErr(t, "an index that came", b.Index("t", "b"), api.ErrTwice)
	wantErr(t, "one that went", b.Delete("t", 4), api.ErrNone)
	wantErr(t, "one that it took away itself", b.Update("t", 3, num(1)), api.ErrNone)
	commit(t, v, remove("t", 2, 2))
	may(t, b.Update("t", 1, num(27)), b.Delete("t", 5), b.Update("t", 2, num(22)))
	wantRevs(t, "Revs", b.Revs()[3:], update("t", 1, 2, num(27)), remove("t", 5, 1), update("t", 2, 2, num(22)))
	wantRows(t, "what it changed is as it left it", b.All("t"), row(1, 2, num(27)), row(2, 2, num(22)), row(own, 0, num(25)))
}

// Two transactions may make the same table, or index: which one may be committed is not asked here.
func TestTheSameIsMadeTwice(t *testing.T) {
	v := committed(t)
	b := New(v)
	may(t, b.Table("u"), b.Index("u", "b"), b.Index("t", "b"))
	own := mustInsert(t, b, "u", of("b", value.Int(1)))
	commit(t, v, made("u"), index("u", "b"), index("u", "a"), index("t", "b"), insert("u", 1, of("b", value.Int(2))))
	wantCatalog(t, "Catalog", b.Catalog(), api.Catalog{"t": {"a", "b"}, "u": {"a", "b"}})
	wantRows(t, "All", b.All("u"), row(1, 0, of("b", value.Int(2))), row(own, 0, of("b", value.Int(1))))
	wantRows(t, "Range", b.Range("u", "b", keys.All()), row(own, 0, of("b", value.Int(1))), row(1, 0, of("b", value.Int(2))))
}

func TestCloneGoesItsOwnWay(t *testing.T) {
	change := map[string]func(b *Buffer){
		"a table":           func(b *Buffer) { b.Table("new") },
		"an index":          func(b *Buffer) { b.Index("t", "new") },
		"an index of u":     func(b *Buffer) { b.Index("u", "new") },
		"a document":        func(b *Buffer) { b.Insert("t", num(50)) },
		"a document of u":   func(b *Buffer) { b.Insert("u", num(50)) },
		"another one":       func(b *Buffer) { b.Update("t", 1, num(51)) },
		"another own one":   func(b *Buffer) { b.Update("t", api.OwnDoc, num(52)) },
		"one goes":          func(b *Buffer) { b.Delete("t", 1) },
		"a changed one":     func(b *Buffer) { b.Update("t", 2, num(53)) },
		"a changed one too": func(b *Buffer) { b.Delete("t", 2) },
		"an own one goes":   func(b *Buffer) { b.Delete("u", api.OwnDoc+1) },
	}
	begun := func() (*Buffer, string) {
		b := New(committed(t, 1, 2, 3))
		mustInsert(t, b, "t", num(20))
		may(t, b.Table("u"), b.Update("t", 2, num(30)), b.Delete("t", 3), b.Index("u", "a"))
		mustInsert(t, b, "u", num(21))
		return b, told(b)
	}
	for what, f := range change {
		b, ahead := begun()
		c := b.Clone()
		if told(c) != ahead {
			t.Fatal("a clone is another one:", told(c))
		}
		f(c)
		if told(b) != ahead || told(c) == ahead {
			t.Errorf("%s, of the clone: it\n%s\nthe other one\n%s", what, told(c), told(b))
		}
		d := b.Clone()
		f(b)
		if told(d) != ahead || told(b) == ahead || told(b) != told(c) {
			t.Errorf("%s, of what was cloned: it\n%s\nthe clone\n%s", what, told(b), told(d))
		}
		for again, g := range change {
			b, ahead := begun()
			c := b.Clone()
			f(b)
			behind := told(b)
			g(c)
			if told(b) != behind {
				t.Errorf("%s, and of the clone %s: %s", what, again, told(b))
			}
			f(c.Clone())
			if d, is := begun(); told(d) != ahead || is != ahead {
				t.Fatal("another beginning")
			}
		}
	}
}

// Clones of a buffer that has nothing yet are over the same, too.
func TestCloneOfANewOne(t *testing.T) {
	v := committed(t, 1)
	b := New(v)
	c := b.Clone()
	commit(t, v, insert("t", 2, num(2)))
	mustInsert(t, c, "t", num(3))
	if l := numbers(b.All("t")); !slices.Equal(l, []uint64{1, 2}) {
		t.Error(l)
	}
	if l := numbers(c.All("t")); !slices.Equal(l, []uint64{1, 2, api.OwnDoc}) {
		t.Error(l)
	}
	if n := mustInsert(t, b, "t", num(4)); n != api.OwnDoc {
		t.Error("numbers of clones go on together", n)
	}
	if n := mustInsert(t, c.Clone(), "t", num(4)); n != api.OwnDoc+1 {
		t.Error("a clone counts from the beginning", n)
	}
}

// Revisions of a clone that is added to stand in no list of another one.
func TestClonesShareNoRevisions(t *testing.T) {
	b := New(committed(t, 1))
	for n := range int64(api.MaxRevs - 1) {
		may(t, b.Update("t", 1, num(n)))
		c, d := b.Clone(), b.Clone()
		may(t, c.Update("t", 1, num(1000)), d.Update("t", 1, num(2000)))
		if l := c.Revs(); l[len(l)-1].Body != bytesOf(num(1000)) || len(l) != int(n)+2 {
			t.Fatal(n, l)
		}
		if l := b.Revs(); l[len(l)-1].Body != bytesOf(num(n)) || len(l) != int(n)+1 {
			t.Fatal(n, l)
		}
	}
}

// nested is a document with lists within lists.
func nested(n int64) api.Value {
	return of("a", of("b", value.List(value.Int(n), num(n))), "c", value.List(value.Int(n)))
}

func TestWhatIsHandedInMayBeChangedLater(t *testing.T) {
	b := New(committed(t, 1))
	v, w := nested(1), nested(2)
	n := mustInsert(t, b, "t", v)
	may(t, b.Update("t", 1, w))
	if !alike(v, nested(1)) || !alike(w, nested(2)) {
		t.Error("what was handed in is changed")
	}
	ahead := told(b)
	spoil(v)
	spoil(w)
	if now := told(b); now != ahead {
		t.Errorf("%s, was\n%s", now, ahead)
	}
	wantRows(t, "All", b.All("t"), row(1, 1, nested(2)), row(n, 0, nested(1)))
}

func TestWhatIsHandedOutMayBeChangedLater(t *testing.T) {
	v := committed(t)
	commit(t, v, insert("t", 1, nested(1)), insert("t", 2, nested(2)), index("t", "c"))
	b := New(v)
	n := mustInsert(t, b, "t", nested(3))
	may(t, b.Update("t", 2, nested(4)), b.Index("t", "b"), b.Table("u"))
	ahead := told(b)
	for _, doc := range []uint64{1, 2, n} {
		x, _ := b.Get("t", doc)
		spoil(x.V)
	}
	spoilAll(b.All("t"))
	for _, field := range []string{"a", "b", "c"} {
		spoilAll(b.Range("t", field, keys.All()))
	}
	for i, l := 0, b.Revs(); i < len(l); i++ {
		l[i] = api.Rev{}
	}
	c := b.Catalog()
	c["t"][0], c["u"] = "spoilt", []string{"spoilt"}
	c["spoilt"] = nil
	delete(c, "t")
	if now := told(b); now != ahead {
		t.Errorf("%s, was\n%s", now, ahead)
	}
	wantRows(t, "what is committed", New(v).All("t"), row(1, 0, nested(1)), row(2, 0, nested(2)))
}

func TestNilBuffer(t *testing.T) {
	var b *Buffer
	for range 2 {
		wantErr(t, "Table", b.Table("t"), api.ErrArg)
		wantErr(t, "Index", b.Index("t", "a"), api.ErrArg)
		if n, e := b.Insert("t", num(1)); n != 0 || e != api.ErrArg {
			t.Error("Insert", n, e)
		}
		wantErr(t, "Update", b.Update("t", 1, num(1)), api.ErrArg)
		wantErr(t, "Delete", b.Delete("t", 1), api.ErrArg)
		if x, ok := b.Get("t", 1); ok || !alikeRow(x, api.Row{}) {
			t.Error("Get", x, ok)
		}
		if b.Clone() != nil {
			t.Error("a clone of nothing is something")
		}
		wantCatalog(t, "Catalog", b.Catalog(), nil)
		wantRows(t, "All", b.All("t"))
		wantRows(t, "Range", b.Range("t", "a", keys.All()))
		wantRevs(t, "Revs", b.Revs())
	}
}

// R1: a buffer over nothing, and one that New did not make, are over what has no tables.
func TestBufferOverNothing(t *testing.T) {
	for what, b := range map[string]*Buffer{"nil": New(nil), "empty": New(views.New()), "zero": new(Buffer), "its clone": new(Buffer).Clone(), "a nil view's": New(nil).Clone()} {
		if b == nil {
			t.Fatal(what)
		}
		wantCatalog(t, what, b.Catalog(), nil)
		wantRows(t, what, b.All("t"))
		wantRows(t, what, b.Range("t", "a", keys.All()))
		wantErr(t, what, b.Index("t", "a"), api.ErrTable)
		wantErr(t, what, b.Delete("t", 1), api.ErrNone)
		wantErr(t, what, b.Update("t", 1, num(1)), api.ErrNone)
		may(t, b.Table("t"))
		n := mustInsert(t, b, "t", num(2))
		m := mustInsert(t, b, "t", num(1))
		may(t, b.Index("t", "a"), b.Update("t", n, num(3)))
		wantRows(t, what, b.All("t"), row(n, 1, num(3)), row(m, 0, num(1)))
		wantRows(t, what, b.Range("t", "a", keys.All()), row(m, 0, num(1)), row(n, 1, num(3)))
		wantRows(t, what, b.Clone().All("t"), row(n, 1, num(3)), row(m, 0, num(1)))
	}
}

// R1: no value that may not be makes a call panic, or is kept.
func TestDocumentsThatMayNotBe(t *testing.T) {
	deep := num(1)
	for range 5000 {
		deep = api.Value{Kind: api.Struct, Names: []string{"a"}, Parts: []api.Value{deep}}
	}
	b := New(committed(t, 1))
	ahead := told(b)
	for i, v := range []api.Value{
		deep, {Kind: api.Struct, Names: make([]string, 100)}, {Kind: api.Struct, Parts: make([]api.Value, 100)},
		{Kind: api.Struct, Names: []string{"a", "a"}, Parts: make([]api.Value, 2)}, of("a", api.Value{Kind: math.MinInt}), {Kind: api.Struct, B: true, S: "x"},
	} {
		if n, e := b.Insert("t", v); n != 0 || e == api.OK {
			t.Error(i, n, e)
		}
		if e := b.Update("t", 1, v); e == api.OK {
			t.Error(i, e)
		}
	}
	if told(b) != ahead {
		t.Error(told(b))
	}
}

func TestTheSameCallsAnswerTheSame(t *testing.T) {
	run := func() string {
		v := committed(t, 5, 3, 4, 1, 2)
		b := New(v)
		for _, name := range []string{"f", "u", "e", "z", "b"} {
			may(t, b.Table(name), b.Index("t", name), b.Index(name, "z"), b.Index(name, "y"), b.Index(name, "x"))
			mustInsert(t, b, name, num(1))
			mustInsert(t, b, "t", num(3))
		}
		return told(b) + told(b.Clone()) + fmt.Sprint(Touches(v, b.Revs()))
	}
	first := run()
	for range 20 {
		if run() != first {
			t.Fatal("another answer")
		}
	}
}
