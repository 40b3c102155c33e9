package buffer

import (
	"slices"

	"parchment/api"
	"parchment/value"
	"parchment/views"
)

// Final is the revisions as they are committed: the documents that it made have the numbers from one on.
func Final(l []api.Rev, next uint64) []api.Rev {
	l = slices.Clone(l)
	for i := range l {
		if l[i].Doc >= api.OwnDoc {
			l[i].Doc = l[i].Doc - api.OwnDoc + next
		}
	}
	return l
}

// Touches is what revisions that fit do, over what is committed, one behind the other.
func Touches(v *views.View, l []api.Rev) []api.Touch {
	b := New(v)
	var out []api.Touch
	for _, r := range l {
		t := b.touch(r)
		b.do(r, t.New)
		out = append(out, t)
	}
	return out
}

// touch is what a revision does over what is seen.
func (b *Buffer) touch(r api.Rev) api.Touch {
	t := api.Touch{Table: r.Table}
	if r.Op == api.OpTable || r.Op == api.OpIndex {
		t.Shape = true
		return t
	}
	if r.Op != api.OpInsert {
		x, was := b.Get(r.Table, r.Doc)
		t.Old, t.Was = x.V, was
	}
	if r.Op != api.OpDelete {
		// Bytes that are gone say nothing: nothing is the document, as it is in a view.
		t.New, _ = value.Decode(r.Body)
		t.Is = true
	}
	return t
}
