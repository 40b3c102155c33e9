package exec

import (
	"parchment/api"
	"parchment/buffer"
	"parchment/check"
	"parchment/eval"
	"parchment/value"
	"parchment/views"
)

// run is a statement while it is run.
type run struct {
	view *views.View
	buf  *buffer.Buffer // what the transaction did, and the statement so far
	stmt api.Stmt
	res  api.Result // what it answers so far
}

// do runs the statement; behind an error what it did and answers means nothing, but for what it looked at.
func (r *run) do() api.Errno {
	r.lookAtShape()
	if e := check.Stmt(r.buf.Catalog(), r.stmt); e != api.OK {
		return e
	}
	switch r.stmt.Kind {
	case api.StmtTable:
		return r.buf.Table(r.stmt.Table)
	case api.StmtIndex:
		return r.buf.Index(r.stmt.Table, r.stmt.Field)
	case api.StmtInsert:
		return r.insert()
	case api.StmtUpdate:
		return r.each(r.update)
	case api.StmtDelete:
		return r.each(r.remove)
	case api.StmtSelect:
		return r.choose()
	}
	return api.OK
}

func (r *run) insert() api.Errno {
	v, e := eval.Eval(r.stmt.Value, value.None())
	if e != api.OK {
		return e
	}
	if _, e := r.buf.Insert(r.stmt.Table, v); e != api.OK {
		return e
	}
	r.res.Changed++
	return api.OK
}

// each changes the documents that are meant, one behind the other, up to the first error of one.
func (r *run) each(change func(api.Row) api.Errno) api.Errno {
	l, e := meant(r.stmt.Where, r.documents())
	if e != api.OK {
		return e
	}
	for _, x := range l {
		if e := change(x); e != api.OK {
			return e
		}
		r.res.Changed++
	}
	return api.OK
}

// update lays what SET says into a document.
func (r *run) update(x api.Row) api.Errno {
	v := x.V
	// A statement that nobody parsed may have more names than expressions, or fewer.
	for i := range min(len(r.stmt.Names), len(r.stmt.Exprs)) {
		// Over the document as it was: what is laid ahead of this is not seen.
		part, e := eval.Eval(r.stmt.Exprs[i], x.V)
		if e != api.OK {
			return e
		}
		v = value.With(v, r.stmt.Names[i], part)
	}
	return r.buf.Update(r.stmt.Table, x.Doc, v)
}

func (r *run) remove(x api.Row) api.Errno { return r.buf.Delete(r.stmt.Table, x.Doc) }

// choose answers the rows that SELECT asks for.
func (r *run) choose() api.Errno {
	l, e := meant(r.stmt.Where, r.source())
	if e != api.OK {
		return e
	}
	l = first(r.stmt, l)
	if r.stmt.Count {
		r.res.Rows = []api.Value{value.Int(int64(len(l)))}
		return api.OK
	}
	for _, x := range l {
		r.res.Rows = append(r.res.Rows, columns(r.stmt.Cols, x.V))
	}
	return api.OK
}

// meant is the rows that a WHERE holds for; the first error of one.
func meant(where api.Expr, l []api.Row) ([]api.Row, api.Errno) {
	var out []api.Row
	for _, x := range l {
		holds, e := eval.Holds(where, x.V)
		if e != api.OK {
			return nil, e
		}
		if holds {
			out = append(out, x)
		}
	}
	return out, api.OK
}

// columns is what paths lead to in a row; all of it, without paths.
func columns(paths []string, v api.Value) api.Value {
	if len(paths) == 0 {
		return v
	}
	var parts []api.Value
	for _, path := range paths {
		parts = append(parts, eval.Path(v, path))
	}
	return value.Struct(paths, parts)
}
