package exec

import (
	"cmp"
	"slices"

	"parchment/api"
	"parchment/plan"
	"parchment/ranges"
)

// A look at a table's shape is one at documents of which there are none: only what changes the shape hits it.
const (
	shapeField = "_"
	aboveKeys  = "\xff" // no key begins with this byte
)

func (r *run) look(at api.Read) { r.res.Reads = append(r.res.Reads, at) }

func (r *run) lookAtShape() {
	r.look(ranges.Part(r.stmt.Table, shapeField, api.Span{Low: aboveKeys, High: aboveKeys}))
}

// source is what SELECT looks at.
func (r *run) source() []api.Row {
	if r.stmt.History {
		return r.history()
	}
	return r.documents()
}

// documents is the documents that are looked at, by their numbers.
func (r *run) documents() []api.Row {
	table := r.stmt.Table
	p := plan.Choose(r.stmt.Where, r.buf.Catalog()[table])
	if p.Field == "" {
		r.look(ranges.Whole(table))
		return r.buf.All(table)
	}
	r.look(ranges.Part(table, p.Field, p.Span))
	l := r.buf.Range(table, p.Field, p.Span)
	slices.SortFunc(l, func(a, b api.Row) int { return cmp.Compare(a.Doc, b.Doc) })
	return l
}

// history is the table's committed revisions of documents, in order.
func (r *run) history() []api.Row {
	r.look(ranges.Whole(r.stmt.Table))
	var l []api.Row
	for _, p := range r.view.Past(r.stmt.Table) {
		if ofDocument(p.Rev.Op) {
			l = append(l, api.Row{V: Past(p)})
		}
	}
	return l
}

// ofDocument tells whether an operation is done to a document; others are done to a table's shape.
func ofDocument(op int) bool {
	return op == api.OpInsert || op == api.OpUpdate || op == api.OpDelete
}
