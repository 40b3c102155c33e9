package syntax

import (
	"strconv"

	"parchment/api"
	"parchment/value"
)

// expression takes an expression of any strength.
func (p *parser) expression() api.Expr { return p.bound(rankOr) }

// bound takes an expression that binds as strongly as a rank, or more strongly.
func (p *parser) bound(rank int) api.Expr {
	switch rank {
	case rankNot:
		return p.negation()
	case rankCompare:
		return p.comparison()
	case rankStrongest:
		return p.strongest()
	}
	x := p.bound(rank + 1)
	for Rank(p.word()) == rank {
		x = p.sides(x, rank)
	}
	return x
}

// sides takes the sign behind a left side, and the right side, which binds more strongly than it.
func (p *parser) sides(left api.Expr, rank int) api.Expr {
	sign := p.take()
	right := p.bound(rank + 1)
	return p.whole(api.Expr{Kind: api.ExprBin, S: sign, Kids: []api.Expr{left, right}})
}

func (p *parser) negation() api.Expr {
	if !p.is(api.WordKey, "NOT") {
		return p.bound(rankNot + 1)
	}
	// Ahead of the word: it counts from its beginning on, as - does.
	defer p.deeper()()
	p.key("NOT")
	return p.around(api.ExprNot, p.bound(rankNot))
}

// comparison takes at most one comparison, and behind it at most one IS NULL: neither goes on behind itself.
func (p *parser) comparison() api.Expr {
	x := p.bound(rankCompare + 1)
	if Rank(p.word()) == rankCompare {
		x = p.sides(x, rankCompare)
	}
	if p.tookKey("IS") {
		x = p.isNull(x)
	}
	return x
}

// isNull takes what stands behind IS.
func (p *parser) isNull(x api.Expr) api.Expr {
	not := p.tookKey("NOT")
	p.key("NULL")
	x = p.around(api.ExprIsNull, x)
	if not {
		x = p.around(api.ExprNot, x)
	}
	return x
}

// around is an expression of one kid.
func (p *parser) around(kind int, kid api.Expr) api.Expr {
	return p.whole(api.Expr{Kind: kind, Kids: []api.Expr{kid}})
}

func (p *parser) strongest() api.Expr {
	defer p.deeper()()
	switch {
	case p.word().Kind == api.WordName:
		return p.whole(api.Expr{Kind: api.ExprField, S: p.path()})
	case p.tookSign("-"):
		return p.around(api.ExprNeg, p.strongest())
	case p.tookSign("("):
		x := p.expression()
		p.sign(")")
		return x
	case p.tookSign("["):
		return p.list()
	case p.tookSign("{"):
		return p.structure()
	}
	return p.literal()
}

// list takes a list's parts and its end.
func (p *parser) list() api.Expr {
	x := api.Expr{Kind: api.ExprList}
	if !p.is(api.WordSign, "]") {
		x.Kids = commas(p, p.expression)
	}
	p.sign("]")
	return p.whole(x)
}

// structure takes a struct's parts and its end.
func (p *parser) structure() api.Expr {
	x := api.Expr{Kind: api.ExprStruct}
	if !p.is(api.WordSign, "}") {
		x.Names, x.Kids = apart(commas(p, p.part))
	}
	p.sign("}")
	return p.whole(x)
}

// part takes a part of a struct.
func (p *parser) part() field { return p.named(":") }

func (p *parser) literal() api.Expr {
	v, ok := literalOf(p.word())
	if !ok {
		p.fail(api.ErrSyntax)
		return api.Expr{}
	}
	p.take()
	return p.whole(api.Expr{Kind: api.ExprLit, V: v})
}

// literalOf is the value that a word says, and whether it says one.
func literalOf(w api.Word) (api.Value, bool) {
	switch w.Kind {
	case api.WordNum:
		n, err := strconv.ParseInt(w.S, 10, 64)
		return value.Int(n), err == nil
	case api.WordStr:
		return value.Str(w.S), true
	case api.WordHex:
		return value.Bytes(w.S), true
	case api.WordKey:
		return keyValue(w.S)
	}
	return api.Value{}, false
}

func keyValue(s string) (api.Value, bool) {
	switch s {
	case "NULL":
		return value.None(), true
	case "TRUE":
		return value.Bool(true), true
	case "FALSE":
		return value.Bool(false), true
	}
	return api.Value{}, false
}
