package syntax

import (
	"strconv"

	"parchment/api"
)

// noLimit is the Limit of a statement that has none.
const noLimit = -1

// statement takes a statement.
func (p *parser) statement() api.Stmt {
	s := api.Stmt{Limit: noLimit}
	switch {
	case p.tookKey("CREATE"):
		p.creation(&s)
	case p.tookKey("INSERT"):
		p.insertion(&s)
	case p.tookKey("UPDATE"):
		p.update(&s)
	case p.tookKey("DELETE"):
		p.deletion(&s)
	case p.tookKey("SELECT"):
		p.selection(&s)
	default:
		p.fail(api.ErrSyntax)
	}
	return s
}

func (p *parser) creation(s *api.Stmt) {
	switch {
	case p.tookKey("TABLE"):
		s.Kind = api.StmtTable
		s.Table = p.name()
	case p.tookKey("INDEX"):
		s.Kind = api.StmtIndex
		p.key("ON")
		s.Table = p.name()
		s.Field = p.bracketed()
	default:
		p.fail(api.ErrSyntax)
	}
}

func (p *parser) insertion(s *api.Stmt) {
	s.Kind = api.StmtInsert
	p.key("INTO")
	s.Table = p.name()
	p.key("VALUE")
	s.Value = p.expression()
}

func (p *parser) update(s *api.Stmt) {
	s.Kind = api.StmtUpdate
	s.Table = p.name()
	p.key("SET")
	s.Names, s.Exprs = apart(commas(p, p.assignment))
	p.where(s)
}

func (p *parser) deletion(s *api.Stmt) {
	s.Kind = api.StmtDelete
	p.key("FROM")
	s.Table = p.name()
	p.where(s)
}

func (p *parser) selection(s *api.Stmt) {
	s.Kind = api.StmtSelect
	p.columns(s)
	p.key("FROM")
	p.source(s)
	p.where(s)
	p.order(s)
	if p.tookKey("LIMIT") {
		s.Limit = p.number()
	}
}

func (p *parser) columns(s *api.Stmt) {
	switch {
	case p.tookSign("*"):
	case p.tookKey("COUNT"):
		s.Count = true
	default:
		s.Cols = commas(p, p.path)
	}
}

// source takes the table of a SELECT, or its history.
func (p *parser) source(s *api.Stmt) {
	if p.tookKey("HISTORY") {
		s.History = true
		s.Table = p.bracketed()
		return
	}
	s.Table = p.name()
}

func (p *parser) where(s *api.Stmt) {
	if p.tookKey("WHERE") {
		s.Where = p.expression()
	}
}

func (p *parser) order(s *api.Stmt) {
	if !p.tookKey("ORDER") {
		return
	}
	p.key("BY")
	s.Order = p.path()
	s.Desc = p.tookKey("DESC")
}

// number takes a number's word that is an int.
func (p *parser) number() int {
	n, err := strconv.Atoi(p.word().S)
	// Texts of digits are numbers by what they say, but not by their kind.
	if p.word().Kind != api.WordNum || err != nil {
		p.fail(api.ErrSyntax)
		return 0
	}
	p.take()
	return n
}

// bracketed takes a name in brackets.
func (p *parser) bracketed() string {
	p.sign("(")
	s := p.name()
	p.sign(")")
	return s
}

// field is a name with its expression.
type field struct {
	name string
	x    api.Expr
}

// assignment takes a field of SET.
func (p *parser) assignment() field { return p.named("=") }

// named takes a name, a sign, and an expression.
func (p *parser) named(between string) field {
	name := p.name()
	p.sign(between)
	return field{name, p.expression()}
}

// apart is the names of fields, and their expressions.
func apart(l []field) ([]string, []api.Expr) {
	var names []string
	var exprs []api.Expr
	for _, f := range l {
		names = append(names, f.name)
		exprs = append(exprs, f.x)
	}
	return names, exprs
}
