package buffer

import (
	"cmp"
	"iter"
	"slices"

	"parchment/api"
	"parchment/keys"
	"parchment/rows"
	"parchment/value"
)

// All is the documents that the transaction sees, by their numbers.
func (b *Buffer) All(table string) []api.Row {
	if b == nil {
		return nil
	}
	byNumber := func(x, y api.Row) int { return cmp.Compare(x.Doc, y.Doc) }
	return b.seen(table, (*rows.Rows).All, byNumber)
}

// Range is those whose field has a key in a span, by these and their numbers; there must be an index of it.
func (b *Buffer) Range(table, field string, s api.Span) []api.Row {
	if !slices.Contains(b.Catalog()[table], field) {
		return nil
	}
	// No key begins with another one: so pairs are ordered by keys, and then by numbers.
	pair := func(x api.Row) string { return keys.Pair(value.Get(x.V, field), x.Doc) }
	byPair := func(x, y api.Row) int { return cmp.Compare(pair(x), pair(y)) }
	over := func(r *rows.Rows) iter.Seq[api.Row] { return within(r, field, s) }
	return b.seen(table, over, byPair)
}

// seen is what is committed in a table and seen still, and what the transaction made or changed there, in one order: that in which both are gone over.
func (b *Buffer) seen(table string, over func(*rows.Rows) iter.Seq[api.Row], order func(x, y api.Row) int) []api.Row {
	t := b.tables[table]
	hidden := func(x api.Row) bool {
		_, is := t.over[x.Doc]
		return is
	}
	// Clones: how a table is gone over may give it an index.
	return merged(without(over(b.view.Rows(table)), hidden), over(t.rows.Clone()), order)
}

// without is what is gone over, but what is left out.
func without(all iter.Seq[api.Row], out func(api.Row) bool) iter.Seq[api.Row] {
	return func(yield func(api.Row) bool) {
		for x := range all {
			if !out(x) && !yield(x) {
				return
			}
		}
	}
}

// merged is what is gone over in the same order, in one list; the second ones are few.
func merged(many, few iter.Seq[api.Row], order func(x, y api.Row) int) []api.Row {
	var l []api.Row
	left := slices.Collect(few)
	for x := range many {
		for len(left) > 0 && order(left[0], x) < 0 {
			l, left = append(l, left[0]), left[1:]
		}
		l = append(l, x)
	}
	return append(l, left...)
}

// within is a table's documents whose field has a key in a span, by these and their numbers; the table gets an index of it, if it has none.
func within(r *rows.Rows, field string, s api.Span) iter.Seq[api.Row] {
	r.AddIndex(field)
	outside := func(x api.Row) bool { return !keys.Has(s, keys.Of(value.Get(x.V, field))) }
	return without(r.Range(field, api.Span{Low: s.Low, High: roof(s)}), outside)
}

// roof is an end above the pairs of all keys in a span. A key that is the beginning of the span's own end is below that, while pairs of it may be above; where it is in the span it is not below Low.
func roof(s api.Span) string {
	for i := 1; i < len(s.High); i++ {
		if s.High[:i] >= s.Low {
			return keys.Next(s.High[:i])
		}
	}
	return s.High
}
