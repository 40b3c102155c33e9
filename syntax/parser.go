package syntax

import (
	"strings"

	"parchment/api"
)

// parser goes over a statement's words, and keeps the first error.
type parser struct {
	words []api.Word // the last one is the end, which nothing takes
	at    int        // the word that is next
	exprs int        // expressions that are whole
	nest  int        // those that are being parsed, within one another
	err   api.Errno
	place int // of the word that was next at the error
}

func (p *parser) word() api.Word { return p.words[p.at] }

// fail keeps an error, if it is the first one. It leaves nothing but the end to be next: so all that is open stops there by itself.
func (p *parser) fail(e api.Errno) {
	if p.err != api.OK {
		return
	}
	p.err, p.place = e, p.word().At
	p.at = len(p.words) - 1
}

// take is what the next word says, which is not the end.
func (p *parser) take() string {
	s := p.word().S
	p.at++
	return s
}

func (p *parser) is(kind int, s string) bool {
	w := p.word()
	return w.Kind == kind && w.S == s
}

// took tells whether a word was next; it is taken then.
func (p *parser) took(kind int, s string) bool {
	if !p.is(kind, s) {
		return false
	}
	p.take()
	return true
}

func (p *parser) tookKey(s string) bool { return p.took(api.WordKey, s) }

func (p *parser) tookSign(s string) bool { return p.took(api.WordSign, s) }

// key takes a key that must stand there.
func (p *parser) key(s string) {
	if !p.tookKey(s) {
		p.fail(api.ErrSyntax)
	}
}

// sign takes a sign that must stand there.
func (p *parser) sign(s string) {
	if !p.tookSign(s) {
		p.fail(api.ErrSyntax)
	}
}

// end asks that no word is left.
func (p *parser) end() {
	if p.word().Kind != api.WordEnd {
		p.fail(api.ErrSyntax)
	}
}

// name takes a name that must stand there.
func (p *parser) name() string {
	if p.word().Kind != api.WordName {
		p.fail(api.ErrSyntax)
		return ""
	}
	return p.take()
}

// path takes names with points between them.
func (p *parser) path() string {
	names := []string{p.name()}
	for p.tookSign(".") {
		names = append(names, p.name())
	}
	return strings.Join(names, ".")
}

// commas is what a function takes one by one, with commas between them.
func commas[T any](p *parser, one func() T) []T {
	var l []T
	for {
		if len(l) == api.MaxParts {
			p.fail(api.ErrLimit)
			return nil
		}
		l = append(l, one())
		if !p.tookSign(",") {
			return l
		}
	}
}

// deeper counts one more within those that are being parsed, and answers what goes back behind it.
func (p *parser) deeper() func() {
	p.nest++
	if p.nest > api.MaxNest {
		p.fail(api.ErrLimit)
	}
	return p.back
}

func (p *parser) back() { p.nest-- }

// whole counts an expression all of whose words are taken.
func (p *parser) whole(x api.Expr) api.Expr {
	p.exprs++
	if p.exprs > api.MaxExprs {
		p.fail(api.ErrLimit)
	}
	return x
}
