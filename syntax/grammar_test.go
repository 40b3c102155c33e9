package syntax

import (
	"math/rand"
	"strings"
	"testing"

	"parchment/api"
)

// chapter is what statements are, as the chapter says it: a rule a line, with a bar between its forms.
const chapter = `
stmt = CREATE TABLE name | CREATE INDEX ON name ( name ) | INSERT INTO name VALUE or | UPDATE name SET sets where | DELETE FROM name where | SELECT cols FROM from where order limit
sets = set | sets , set
set = name = or
where = | WHERE or
cols = * | COUNT | paths
paths = path | paths , path
path = name | path . name
from = name | HISTORY ( name )
order = | ORDER BY path | ORDER BY path DESC
limit = | LIMIT num
or = and | or OR and
and = not | and AND not
not = NOT not | null
null = comp | comp IS NULL | comp IS NOT NULL
comp = sum | sum = sum | sum <> sum | sum < sum | sum <= sum | sum > sum | sum >= sum
sum = prod | sum + prod | sum - prod
prod = top | prod * top
top = - top | ( or ) | [ ] | [ ors ] | { } | { parts } | path | NULL | TRUE | FALSE | num | str | hex
ors = or | ors , or
parts = part | parts , part
part = name : or`

// form is one way in which what a rule names may be.
type form struct {
	rule string
	body []string
}

// item is a form of which the first words are found, from a place on.
type item struct {
	form, dot, from int
}

// grammar finds out which words may follow which, by Earley's way.
type grammar struct {
	forms []form
	of    map[string][]int
	empty map[string]bool
}

func newGrammar() *grammar {
	g := &grammar{of: map[string][]int{}, empty: map[string]bool{}}
	for _, line := range strings.Split(strings.TrimSpace(chapter), "\n") {
		rule, forms, _ := strings.Cut(line, " =")
		for _, f := range strings.Split(forms, "|") {
			body := strings.Fields(f)
			g.of[rule] = append(g.of[rule], len(g.forms))
			g.forms = append(g.forms, form{rule, body})
			if len(body) == 0 {
				g.empty[rule] = true
			}
		}
	}
	return g
}

// chart is which items hold at each place of the words so far.
type chart [][]item

// closed is a set of items with all that follow from them.
func (g *grammar) closed(c chart, set []item) chart {
	seen := map[item]bool{}
	var all []item
	add := func(i item) {
		if !seen[i] {
			seen[i] = true
			all = append(all, i)
		}
	}
	for _, i := range set {
		add(i)
	}
	here := len(c)
	for n := 0; n < len(all); n++ {
		i := all[n]
		f := g.forms[i.form]
		if i.dot < len(f.body) {
			next := f.body[i.dot]
			for _, k := range g.of[next] {
				add(item{k, 0, here})
			}
			if g.empty[next] {
				add(item{i.form, i.dot + 1, i.from})
			}
			continue
		}
		at := all
		if i.from < here {
			at = c[i.from]
		}
		for _, k := range at {
			if b := g.forms[k.form].body; k.dot < len(b) && b[k.dot] == f.rule {
				add(item{k.form, k.dot + 1, k.from})
			}
		}
	}
	return append(c[:here:here], all)
}

func (g *grammar) begin() chart {
	var set []item
	for _, k := range g.of["stmt"] {
		set = append(set, item{k, 0, 0})
	}
	return g.closed(nil, set)
}

// step is the chart behind a word more, and whether that may stand there.
func (g *grammar) step(c chart, word string) (chart, bool) {
	var set []item
	for _, i := range c[len(c)-1] {
		if b := g.forms[i.form].body; i.dot < len(b) && b[i.dot] == word && g.of[word] == nil {
			set = append(set, item{i.form, i.dot + 1, i.from})
		}
	}
	if len(set) == 0 {
		return nil, false
	}
	return g.closed(c, set), true
}

// whole tells whether the words so far are a statement.
func (g *grammar) whole(c chart) bool {
	for _, i := range c[len(c)-1] {
		if f := g.forms[i.form]; f.rule == "stmt" && i.dot == len(f.body) && i.from == 0 {
			return true
		}
	}
	return false
}

// allWords are all words of the language, by what the grammar calls them.
func allWords() []string {
	return append(append(strings.Fields(allKeys), strings.Fields(allSigns)...), "name", "num", "str", "hex")
}

// spelt is a word of what the grammar calls it.
func spelt(word string) string {
	switch word {
	case "name":
		return "ab"
	case "num":
		return "12"
	case "str":
		return "'a''b'"
	case "hex":
		return "x'0f'"
	}
	return word
}

// walk goes over all words that may follow words that may stand, up to so many, and holds Parse against the grammar for each of all words behind them.
func (g *grammar) walk(t *testing.T, c chart, text string, words []string, deep int) {
	if g.whole(c) {
		if x, at, e := Parse(text); e != api.OK || at != 0 || x.Kind == 0 {
			t.Errorf("Parse(%q) = %v, %d, %d, want a statement", text, x, at, e)
		}
	} else {
		refused(t, text, len(text), 120)
	}
	if deep == 0 {
		return
	}
	for _, w := range words {
		if next, ok := g.step(c, w); ok {
			g.walk(t, next, text+spelt(w)+" ", words, deep-1)
		} else {
			refused(t, text+spelt(w), len(text), 120)
			refused(t, text+spelt(w)+" ab 12 ) , FROM", len(text), 120)
		}
	}
}

// after is the chart behind a text of words with blanks between them.
func (g *grammar) after(text string) chart {
	c := g.begin()
	for _, w := range strings.Fields(text) {
		next, ok := g.step(c, w)
		if !ok {
			panic(text)
		}
		c = next
	}
	return c
}

// Promise 12.1: all beginnings of statements, of up to seven words, and each word behind them.
func TestAllShort(t *testing.T) {
	g := newGrammar()
	g.walk(t, g.begin(), "", allWords(), 7)
}

// Promise 12.1: all expressions of up to four words, and each word behind them.
func TestAllShortExpressions(t *testing.T) {
	g := newGrammar()
	g.walk(t, g.after("DELETE FROM name WHERE"), "DELETE FROM ab WHERE ", allWords(), 4)
	few := strings.Fields("name num NOT AND = - * ( ) [ ] { } , : . IS NULL")
	g.walk(t, g.after("UPDATE name SET name ="), "UPDATE ab SET ab = ", few, 4)
}

// Promise 12.1: what may stand at the end of a SELECT, word by word.
func TestAllShortEnds(t *testing.T) {
	g := newGrammar()
	few := strings.Fields("name . ORDER BY DESC LIMIT num WHERE , ( ) HISTORY FROM *")
	g.walk(t, g.after("SELECT * FROM name"), "SELECT * FROM ab ", few, 7)
	g.walk(t, g.after("SELECT name FROM"), "SELECT ab FROM ", few, 6)
}

// tried holds Parse against the grammar for words, with a place for each.
func (g *grammar) tried(t *testing.T, words []string) {
	text, place := "", -1
	c := g.begin()
	for _, w := range words {
		if place < 0 {
			next, ok := g.step(c, w)
			if ok {
				c = next
			} else {
				place = len(text)
			}
		}
		text += spelt(w) + " "
	}
	switch {
	case place >= 0:
		refused(t, text, place, 120)
	case !g.whole(c):
		refused(t, text, len(text), 120)
	default:
		if _, at, e := Parse(text); e != api.OK || at != 0 {
			t.Errorf("Parse(%q) is told %d at %d", text, e, at)
		}
	}
}

// Promise 12.1: statements of whom a word or some were changed, taken out, put in, or put elsewhere.
func TestChanged(t *testing.T) {
	g := newGrammar()
	all := allWords()
	r := rand.New(rand.NewSource(12))
	for _, s := range []string{
		"CREATE INDEX ON name ( name )",
		"INSERT INTO name VALUE { name : num , name : [ hex , str , - NULL ] , name : { } }",
		"UPDATE name SET name = name . name + num , name = NOT name IS NOT NULL WHERE name >= num AND ( name OR TRUE )",
		"DELETE FROM name WHERE NOT ( name = num OR name <> - ( num - name ) * num ) IS NULL",
		"SELECT name , name . name . name FROM HISTORY ( name ) WHERE name < num OR NOT name . name = [ ] ORDER BY name . name DESC LIMIT num",
		"SELECT COUNT FROM name WHERE name IS NULL AND name + num * num > str ORDER BY name LIMIT num",
	} {
		words := strings.Fields(s)
		g.tried(t, words)
		for range 400 {
			l := append([]string{}, words...)
			for range 1 + r.Intn(3) {
				i, k := r.Intn(len(l)), r.Intn(len(l))
				switch r.Intn(5) {
				case 0:
					l[i] = all[r.Intn(len(all))]
				case 1:
					l = append(l[:i], l[i+1:]...)
				case 2:
					l = append(l[:i], append([]string{all[r.Intn(len(all))]}, l[i:]...)...)
				case 3:
					l[i], l[k] = l[k], l[i]
				case 4:
					l = append(l[:i], append([]string{l[k]}, l[i:]...)...)
				}
				if len(l) == 0 {
					l = []string{"name"}
				}
			}
			g.tried(t, l)
		}
	}
}
