package occ

import (
	"fmt"
	"math/rand/v2"
	"slices"
	"testing"

	"parchment/api"
	"parchment/buffer"
	"parchment/exec"
	"parchment/ranges"
	"parchment/syntax"
	"parchment/views"
)

// chance makes what befalls at random, the same each time.
type chance struct{ *rand.Rand }

func (c chance) of(l ...string) string { return l[c.IntN(len(l))] }

func (c chance) number() string { return fmt.Sprint(c.IntN(5)) }

func (c chance) table() string { return c.of("t", "t", "u") }

func (c chance) where() string {
	switch c.IntN(6) {
	case 0:
		return ""
	case 1:
		return " WHERE b = " + c.number()
	case 2:
		return " WHERE a > " + c.number() + " AND b <= " + c.number()
	case 3:
		return " WHERE a + 1 = " + c.number()
	}
	return " WHERE a " + c.of("=", "=", "=", "=", "<", ">=") + " " + c.number()
}

func (c chance) statement() string {
	t := c.table()
	switch c.IntN(16) {
	case 0:
		return c.of("CREATE TABLE "+c.of("t", "v", "w"), "INSERT INTO v VALUE {a: 1}")
	case 1:
		return c.of("CREATE INDEX ON "+t+" ("+c.of("a", "b")+")", "SELECT * FROM v")
	case 2:
		return "SELECT " + c.of("*", "COUNT", "block, doc, version, data") + " FROM HISTORY (" + t + ")" + c.of("", " WHERE data.a = 1", " WHERE doc < 5")
	case 3, 4, 5:
		return "SELECT " + c.of("*", "COUNT", "a") + " FROM " + t + c.where() + c.of("", " ORDER BY b LIMIT 2")
	case 6, 7:
		return "DELETE FROM " + t + " WHERE a = " + c.number()
	case 8, 9, 10:
		return "UPDATE " + t + " SET " + c.of("a = "+c.number(), "b = b + 1", "b = a", "a = b, b = 'x'") + c.where()
	}
	return "INSERT INTO " + t + " VALUE {a: " + c.number() + ", b: " + c.number() + "}"
}

// tx is what a second making knows of a transaction: all of its looks, what it ran and was told.
type tx struct {
	number uint64
	began  uint64
	looks  []api.Read
	lost   bool
	alone  bool // nobody committed since it began, and nothing was taken out
	texts  []string
	told   []string
}

// model is a second making: open transactions in a list, everything that blocks did in a list.
type model struct {
	*world
	last    uint64
	open    []*tx
	touches [][]api.Touch // by blocks
	log     int           // how many blocks are remembered
	serial  *views.View   // what the committed ones come to, done alone
	errors  map[api.Errno]int
	lone    int // how many were committed during whose span nobody committed
}

// newModel is one in which a first transaction made two tables.
func newModel(t *testing.T) *model {
	m := &model{world: newWorld(t), serial: views.New(), errors: map[api.Errno]int{}}
	m.begin()
	for _, text := range []string{"CREATE TABLE t", "CREATE TABLE u", "CREATE INDEX ON t (a)"} {
		m.statement(m.open[0], text)
	}
	m.commit(m.open[0])
	return m
}

// answer is what a statement was told, but for its looks.
func answer(r api.Result, e api.Errno) string {
	return fmt.Sprintf("%v, changed %d, error %d", r.Rows, r.Changed, e)
}

func (m *model) begin() {
	n, e := m.c.Begin()
	if len(m.open) == api.MaxOpen {
		if n != 0 || e != api.ErrLimit {
			m.t.Fatal("one too many:", n, e)
		}
		return
	}
	m.last++
	if n != m.last || e != api.OK {
		m.t.Fatalf("number %d, error %d, want %d", n, e, m.last)
	}
	m.open = append(m.open, &tx{number: n, began: m.v.Seq(), alone: true})
}

func (m *model) statement(x *tx, text string) {
	s, _, e := syntax.Parse(text)
	if e != api.OK {
		m.t.Fatal(text, e)
	}
	r, e := m.c.Run(x.number, s)
	m.errors[e]++
	x.looks = append(x.looks, r.Reads...)
	x.texts, x.told = append(x.texts, text), append(x.told, answer(r, e))
}

// expected is what Check must tell.
func (m *model) expected(x *tx) api.Errno {
	if x.lost {
		return api.ErrConflict
	}
	for _, l := range m.touches[x.began:] {
		for _, t := range l {
			if slices.ContainsFunc(x.looks, func(r api.Read) bool { return ranges.Hits(r, t) }) {
				return api.ErrConflict
			}
		}
	}
	return api.OK
}

// commit commits a transaction, if it may be, and does it alone then.
func (m *model) commit(x *tx) {
	b, e := m.c.Block(x.number, "p")
	if want := m.expected(x); e != want || x.alone && e != api.OK {
		m.t.Fatalf("%q: block: error %d, want %d", x.texts, e, want)
	}
	m.errors[e]++
	if e == api.OK {
		if x.alone {
			m.lone++
		}
		m.replay(x, b)
	}
	if e == api.OK && m.c.Writes(x.number) {
		m.touches = append(m.touches, buffer.Touches(m.v, b.Revs))
		m.log++
		m.c.Done(b)
		if f := m.v.Apply(b); f != api.OK {
			m.t.Fatalf("%v does not fit: error %d", b, f)
		}
		for _, o := range m.open {
			o.alone = o.alone && o == x
		}
	}
	m.end(x)
}

// replay does a committed transaction alone, behind those ahead of it: it is told the same, and comes to the same (T2).
func (m *model) replay(x *tx, b api.Block) {
	own := buffer.New(m.serial)
	for i, text := range x.texts {
		s, _, _ := syntax.Parse(text)
		r, did, e := exec.Run(m.serial, own, s)
		own = did
		if got := answer(r, e); got != x.told[i] {
			m.t.Fatalf("%q: alone it is told of the last one\n%s, before\n%s", x.texts[:i+1], got, x.told[i])
		}
	}
	revs := buffer.Final(own.Revs(), m.serial.Next())
	if b.Seq != m.v.Seq() || b.Tx != x.number || b.Prev != "p" || !slices.Equal(showRevs(b.Revs), showRevs(revs)) {
		m.t.Fatalf("%q: block %v, alone it does %v", x.texts, b, revs)
	}
	if len(revs) == 0 {
		return
	}
	if e := m.serial.Apply(api.Block{Seq: m.serial.Seq(), Revs: revs}); e != api.OK {
		m.t.Fatal(e)
	}
}

func (m *model) end(x *tx) {
	if !m.c.End(x.number) || m.c.End(x.number) {
		m.t.Fatal("end of", x.number)
	}
	m.open = slices.DeleteFunc(m.open, func(o *tx) bool { return o == x })
	m.log = 0
	for _, o := range m.open {
		m.log = max(m.log, int(m.v.Seq()-o.began))
	}
}

// erase takes out some revision's bytes.
func (m *model) erase(c chance) {
	table := c.table()
	past := m.v.Past(table)
	if len(past) == 0 {
		return
	}
	p := past[c.IntN(len(past))]
	if m.v.Erase(p.Seq, p.Index) != m.serial.Erase(p.Seq, p.Index) {
		m.t.Fatal("what was done alone has another history")
	}
	m.c.Erased(table)
	for _, x := range m.open {
		x.alone = false
		x.lost = x.lost || slices.ContainsFunc(x.looks, func(r api.Read) bool { return r == api.Read{Table: table} })
	}
}

// holds holds what is told of all transactions.
func (m *model) holds() {
	if m.c.Open() != len(m.open) || m.c.Log() != m.log {
		m.t.Fatalf("open %d, remembered %d; want %d, %d", m.c.Open(), m.c.Log(), len(m.open), m.log)
	}
	for _, x := range m.open {
		if e := m.c.Check(x.number); e != m.expected(x) || !m.c.Is(x.number) {
			m.t.Fatalf("%d, %q: check: error %d, want %d", x.number, x.texts, e, m.expected(x))
		}
	}
}

// befall is one thing that happens.
func (m *model) befall(c chance) {
	if len(m.open) == 0 || c.IntN(8) == 0 {
		m.begin()
		return
	}
	x := m.open[c.IntN(len(m.open))]
	switch c.IntN(24) {
	case 0, 1, 2:
		m.commit(x)
	case 3:
		m.end(x)
	case 4:
		m.erase(c)
	default:
		m.statement(x, c.statement())
	}
}

// Transactions at random that are open at once, against the second making, and against themselves alone.
func TestAgainstASecondMaking(t *testing.T) {
	told := map[api.Errno]int{}
	blocks, lone := 0, 0
	for seed := range uint64(300) {
		c := chance{rand.New(rand.NewPCG(seed, 21))}
		m := newModel(t)
		for range 300 {
			m.befall(c)
			m.holds()
		}
		if got, want := fmt.Sprint(m.v.Catalog()), fmt.Sprint(m.serial.Catalog()); got != want {
			t.Fatalf("seed %d: %s, alone %s", seed, got, want)
		}
		for _, table := range m.v.Tables() {
			if got, want := fmt.Sprint(m.v.Past(table)), fmt.Sprint(m.serial.Past(table)); got != want {
				t.Fatalf("seed %d: %s, alone %s", seed, got, want)
			}
		}
		for e, n := range m.errors {
			told[e] += n
		}
		blocks, lone = blocks+int(m.v.Seq()), lone+m.lone
	}
	for _, e := range []api.Errno{api.OK, api.ErrConflict, api.ErrTable, api.ErrTwice, api.ErrType} {
		if told[e] < 100 {
			t.Errorf("error %d was told %d times alone", e, told[e])
		}
	}
	if blocks < 2000 || lone < 500 {
		t.Error("too few of a kind:", blocks, lone, told)
	}
}
