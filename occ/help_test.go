package occ

import (
	"fmt"
	"slices"
	"testing"

	"parchment/api"
	"parchment/syntax"
	"parchment/views"
)

// world is what is committed, and the open transactions over it.
type world struct {
	t *testing.T
	v *views.View
	c *Control
}

// newWorld is one in which each of the statements was committed by itself.
func newWorld(t *testing.T, texts ...string) *world {
	t.Helper()
	v := views.New()
	c, e := New(v)
	if e != api.OK || c == nil {
		t.Fatal(c, e)
	}
	w := &world{t: t, v: v, c: c}
	for _, text := range texts {
		w.did(text)
	}
	return w
}

// parsed is the statement that a text says.
func parsed(t *testing.T, text string) api.Stmt {
	t.Helper()
	s, at, e := syntax.Parse(text)
	if e != api.OK {
		t.Fatalf("%s: error %d at %d", text, e, at)
	}
	return s
}

// begin begins a transaction that may begin.
func (w *world) begin() uint64 {
	w.t.Helper()
	n, e := w.c.Begin()
	if e != api.OK {
		w.t.Fatal("begin: error", e)
	}
	return n
}

// run runs statements that have no error: the last one's answer.
func (w *world) run(n uint64, texts ...string) api.Result {
	w.t.Helper()
	var last api.Result
	for _, text := range texts {
		r, e := w.c.Run(n, parsed(w.t, text))
		if e != api.OK {
			w.t.Fatalf("%d: %s: error %d", n, text, e)
		}
		last = r
	}
	return last
}

// fails runs a statement that must have an error, and tells nothing else then but looks.
func (w *world) fails(n uint64, text string, want api.Errno) {
	w.t.Helper()
	r, e := w.c.Run(n, parsed(w.t, text))
	if e != want || len(r.Rows) != 0 || r.Changed != 0 {
		w.t.Errorf("%d: %s: error %d, %v; want error %d alone", n, text, e, r, want)
	}
}

// commit commits a transaction, if it may be, and ends it.
func (w *world) commit(n uint64) api.Errno {
	w.t.Helper()
	b, e := w.c.Block(n, "")
	if e == api.OK {
		w.c.Done(b)
		if f := w.v.Apply(b); f != api.OK {
			w.t.Fatal("a block that does not fit: error", f)
		}
	}
	if !w.c.End(n) {
		w.t.Fatal(n, "was not open")
	}
	return e
}

// did commits a transaction of its own that ran statements.
func (w *world) did(texts ...string) {
	w.t.Helper()
	n := w.begin()
	w.run(n, texts...)
	if e := w.commit(n); e != api.OK {
		w.t.Fatalf("%q: commit: error %d", texts, e)
	}
}

// may holds whether a transaction may be committed against what Check and Block tell.
func (w *world) may(n uint64, want api.Errno) {
	w.t.Helper()
	if e := w.c.Check(n); e != want {
		w.t.Errorf("check %d: error %d, want %d", n, e, want)
	}
	b, e := w.c.Block(n, "prev")
	if e != want {
		w.t.Errorf("block of %d: error %d, want %d", n, e, want)
	}
	if e != api.OK && (b.Seq != 0 || b.Prev != "" || b.Tx != 0 || len(b.Revs) != 0) {
		w.t.Errorf("block of %d beside error %d: %v", n, e, b)
	}
}

// counts holds how many transactions are open, and how many blocks are remembered.
func (w *world) counts(open, log int) {
	w.t.Helper()
	if w.c.Open() != open || w.c.Log() != log {
		w.t.Errorf("open %d, remembered %d; want %d, %d", w.c.Open(), w.c.Log(), open, log)
	}
}

// showRevs is revisions as texts.
func showRevs(l []api.Rev) []string {
	var out []string
	for _, r := range l {
		out = append(out, fmt.Sprintf("%d %s.%s %d/%d %x %x %v", r.Op, r.Table, r.Field, r.Doc, r.Version, r.Hash, r.Body, r.Gone))
	}
	return out
}

// sameRevs holds revisions against others.
func sameRevs(t *testing.T, got, want []api.Rev) {
	t.Helper()
	if !slices.Equal(showRevs(got), showRevs(want)) {
		t.Errorf("%q, want %q", showRevs(got), showRevs(want))
	}
}
