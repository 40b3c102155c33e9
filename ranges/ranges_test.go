package ranges

import (
	"fmt"
	"math"
	"math/rand"
	"slices"
	"testing"

	"parchment/api"
	"parchment/keys"
	"parchment/rows"
	"parchment/value"
)

// num is a document whose field a is a number.
func num(n int64) api.Value { return with("a", value.Int(n)) }

// with is a document of one field.
func with(name string, v api.Value) api.Value {
	return value.Struct([]string{name}, []api.Value{v})
}

func came(table string, v api.Value) api.Touch { return api.Touch{Table: table, New: v, Is: true} }

func went(table string, v api.Value) api.Touch { return api.Touch{Table: table, Old: v, Was: true} }

func changed(table string, old, now api.Value) api.Touch {
	return api.Touch{Table: table, Old: old, New: now, Was: true, Is: true}
}

func shaped(table string) api.Touch { return api.Touch{Table: table, Shape: true} }

// from is the keys of numbers from low on, below high.
func from(low, high int64) api.Span {
	return api.Span{Low: keys.Of(value.Int(low)), High: keys.Of(value.Int(high))}
}

// shape is the look that sees no document, but the table's shape.
func shape(table string) api.Read { return Part(table, "_", api.Span{Low: "\xff", High: "\xff"}) }

// setOf is a set to which looks were added.
func setOf(l ...api.Read) *Set {
	var s Set
	for _, r := range l {
		s.Add(r)
	}
	return &s
}

func wantAll(t *testing.T, what string, s *Set, want ...api.Read) {
	t.Helper()
	if got := s.All(); !slices.Equal(got, want) {
		t.Errorf("%s: %q, want %q", what, got, want)
	}
}

func TestLooks(t *testing.T) {
	for _, table := range []string{"t", "", "no name", "\x00\xff"} {
		if got := Whole(table); got != (api.Read{Table: table}) {
			t.Errorf("%q: %q", table, got)
		}
		for _, s := range []api.Span{{}, {Low: "a"}, {High: "b"}, {Low: "a", High: "b"}, {Low: "b", High: "a"}} {
			if got := Part(table, "f", s); got != (api.Read{Table: table, Field: "f", Span: s}) {
				t.Errorf("%q %q: %q", table, s, got)
			}
			if got := Part(table, "", s); got != Whole(table) {
				t.Errorf("%q: a look at all with the span %q: %q", table, s, got)
			}
		}
	}
}

func TestHitsAPart(t *testing.T) {
	r := Part("t", "a", from(1, 5))
	for what, x := range map[string]struct {
		t    api.Touch
		want bool
	}{
		"comes into it":          {came("t", num(1)), true},
		"comes at its last one":  {came("t", num(4)), true},
		"comes below it":         {came("t", num(0)), false},
		"comes at its end":       {came("t", num(5)), false},
		"goes from it":           {went("t", num(1)), true},
		"goes beside it":         {went("t", num(5)), false},
		"leaves it":              {changed("t", num(4), num(5)), true},
		"enters it":              {changed("t", num(0), num(1)), true},
		"changes within it":      {changed("t", num(1), num(2)), true},
		"stays as it is":         {changed("t", num(1), num(1)), true},
		"changes beside it":      {changed("t", num(0), num(5)), false},
		"has no such field":      {came("t", with("b", value.Int(1))), false},
		"loses the field":        {changed("t", num(1), with("b", value.Int(1))), true},
		"has another kind there": {came("t", with("a", value.Str("1"))), false},
		"has the field deeper":   {came("t", with("b", num(1))), false},
		"of its shape":           {shaped("t"), true},
		"another table's":        {changed("u", num(1), num(1)), false},
		"another table's shape":  {shaped("u"), false},
		"nothing at all":         {api.Touch{Table: "t"}, false},
		"Old, but it was not":    {api.Touch{Table: "t", Old: num(1), New: num(0), Is: true}, false},
		"New, but it is not":     {api.Touch{Table: "t", Old: num(0), New: num(1), Was: true}, false},
		"neither was nor is":     {api.Touch{Table: "t", Old: num(1), New: num(1)}, false},
		"shape, and a document":  {api.Touch{Table: "t", Shape: true, New: num(9), Is: true}, true},
	} {
		if got := Hits(r, x.t); got != x.want {
			t.Errorf("%s: %v", what, got)
		}
	}
}

func TestHitsTheWhole(t *testing.T) {
	looks := map[string]api.Read{
		"whole":       Whole("t"),
		"with a span": {Table: "t", Span: api.Span{Low: "b", High: "a"}},
	}
	for what, r := range looks {
		for _, v := range []api.Value{num(1), with("b", value.None()), value.Struct(nil, nil), value.None(), {}} {
			if !Hits(r, came("t", v)) || !Hits(r, went("t", v)) || !Hits(r, changed("t", v, v)) {
				t.Errorf("%s: it does not see %v", what, v)
			}
			if Hits(r, came("u", v)) || Hits(r, came("", v)) || Hits(r, came("T", v)) {
				t.Errorf("%s: it sees another table", what)
			}
		}
		if !Hits(r, shaped("t")) || Hits(r, shaped("u")) {
			t.Errorf("%s: the shape", what)
		}
		if Hits(r, api.Touch{Table: "t", Old: num(1), New: num(2)}) {
			t.Errorf("%s: a document that neither was nor is", what)
		}
	}
}

// A document without the field is seen as if it had nothing (Null) there.
func TestHitsWhatIsNotThere(t *testing.T) {
	nothing := Part("t", "a", keys.Equal(value.None()))
	for _, v := range []api.Value{with("b", value.Int(1)), with("a", value.None()), value.Struct(nil, nil), value.Int(7)} {
		if !Hits(nothing, came("t", v)) || !Hits(nothing, changed("t", v, num(1))) || !Hits(nothing, changed("t", num(1), v)) {
			t.Errorf("%v is not seen", v)
		}
	}
	if Hits(nothing, came("t", num(0))) {
		t.Error("a number is seen")
	}
}

func TestHitsAtTheEdgesOfSpans(t *testing.T) {
	key := keys.Of(value.Int(3))
	for what, x := range map[string]struct {
		s    api.Span
		want [3]bool // of 2, 3 and 4
	}{
		"all":           {keys.All(), [3]bool{true, true, true}},
		"equal":         {keys.Equal(value.Int(3)), [3]bool{false, true, false}},
		"below":         {api.Span{High: key}, [3]bool{true, false, false}},
		"below or same": {api.Span{High: keys.Next(key)}, [3]bool{true, true, false}},
		"above":         {api.Span{Low: keys.Next(key)}, [3]bool{false, false, true}},
		"above or same": {api.Span{Low: key}, [3]bool{false, true, true}},
		"empty":         {api.Span{Low: key, High: key}, [3]bool{}},
		"turned round":  {from(9, 1), [3]bool{}},
		// It is the value's key that counts, without a number behind it.
		"ends behind the key":   {api.Span{High: key + "\x00"}, [3]bool{true, true, false}},
		"begins behind the key": {api.Span{Low: key + "\x00"}, [3]bool{false, false, true}},
		"none":                  {shape("t").Span, [3]bool{}},
	} {
		for i, want := range x.want {
			if got := Hits(Part("t", "a", x.s), came("t", num(int64(i+2)))); got != want {
				t.Errorf("%s: %d: %v", what, i+2, got)
			}
		}
		if !Hits(Part("t", "a", x.s), shaped("t")) {
			t.Errorf("%s: not its shape", what)
		}
	}
}

// A look at a table's shape sees no document, whatever that has in its field _.
func TestHitsTheShapeAlone(t *testing.T) {
	for _, v := range sample() {
		if Hits(shape("t"), changed("t", with("_", v), with("_", v))) {
			t.Errorf("%v is seen", v)
		}
	}
	if Hits(shape("t"), came("t", with("_", api.Value{Kind: 255}))) {
		t.Error("one that may not be is seen")
	}
}

func sample() []api.Value {
	return []api.Value{
		value.None(), value.Bool(false), value.Bool(true), value.Int(math.MinInt64), value.Int(-1), value.Int(0),
		value.Int(1), value.Int(math.MaxInt64), value.Str(""), value.Str("\x00"), value.Str("a"), value.Str("ab"),
		value.Bytes(""), value.Bytes("\xff\xff"), value.List(), value.List(value.Int(1)), value.Struct(nil, nil), num(1),
	}
}

// T2: what nobody hits tells the same ahead and behind; what a change is among is hit. It is held against the order
// of values, and against tables that are gone over by their pairs.
func TestHitsAgainstWhatIsSeen(t *testing.T) {
	l := sample()
	for _, at := range l {
		key := keys.Of(at)
		for what, x := range map[string]struct {
			s  api.Span
			is func(order int) bool
		}{
			"=":  {keys.Equal(at), func(o int) bool { return o == 0 }},
			"<":  {api.Span{High: key}, func(o int) bool { return o < 0 }},
			"<=": {api.Span{High: keys.Next(key)}, func(o int) bool { return o <= 0 }},
			">":  {api.Span{Low: keys.Next(key)}, func(o int) bool { return o > 0 }},
			">=": {api.Span{Low: key}, func(o int) bool { return o >= 0 }},
		} {
			r := Part("t", "a", x.s)
			for _, old := range l {
				was := x.is(value.Compare(old, at))
				for _, now := range l {
					is := x.is(value.Compare(now, at))
					if got := Hits(r, changed("t", with("a", old), with("a", now))); got != (was || is) {
						t.Errorf("%s %v: from %v to %v: %v", what, at, old, now, got)
					}
				}
				if Hits(r, came("t", with("a", old))) != was || Hits(r, went("t", with("a", old))) != was {
					t.Errorf("%s %v: %v comes, or goes", what, at, old)
				}
				if seenBy(r, with("a", old)) != was {
					t.Errorf("%s %v: the table's pairs tell otherwise of %v", what, at, old)
				}
			}
		}
	}
}

// seenBy tells whether a document is among those that a table with an index goes over for a look.
func seenBy(r api.Read, doc api.Value) bool {
	table := rows.New()
	table.AddIndex(r.Field)
	table.Put(api.Row{Doc: 1 << 40, V: doc})
	for range table.Range(r.Field, r.Span) {
		return true
	}
	return false
}

func TestAdd(t *testing.T) {
	a, b := Part("t", "a", from(1, 5)), Part("t", "b", from(1, 5))
	var s Set
	wantAll(t, "a set that is new", &s)
	for i, x := range []struct {
		r    api.Read
		want bool
		all  []api.Read
	}{
		{a, true, []api.Read{a}},
		{a, false, []api.Read{a}},
		{b, true, []api.Read{a, b}},
		{Part("t", "a", from(1, 6)), true, []api.Read{a, b, Part("t", "a", from(1, 6))}},
		{Part("t", "a", from(0, 5)), true, []api.Read{a, b, Part("t", "a", from(1, 6)), Part("t", "a", from(0, 5))}},
		{b, false, []api.Read{a, b, Part("t", "a", from(1, 6)), Part("t", "a", from(0, 5))}},
	} {
		if got := s.Add(x.r); got != x.want {
			t.Errorf("%d: %v", i, got)
		}
		wantAll(t, fmt.Sprint(i), &s, x.all...)
	}
	if !s.Add(Part("u", "a", from(1, 5))) {
		t.Error("another table's look is another one")
	}
}

func TestAddOneAtAll(t *testing.T) {
	a, b := Part("t", "a", from(1, 5)), Part("t", "b", keys.All())
	u, v := Part("u", "a", from(1, 5)), Whole("v")
	s := setOf(a, u, b, shape("t"), v)
	if !s.Add(Whole("t")) {
		t.Error("it was not there")
	}
	wantAll(t, "it takes the place of the others of its table", s, u, v, Whole("t"))
	for _, r := range []api.Read{Whole("t"), a, b, shape("t"), {Table: "t", Span: from(1, 2)}, v, u} {
		if s.Add(r) {
			t.Errorf("%q was there, or one at all", r)
		}
	}
	wantAll(t, "what was there", s, u, v, Whole("t"))
	if !s.Add(Part("w", "a", from(1, 5))) || !s.Add(Whole("u")) || !s.Add(Whole("w")) {
		t.Error("other tables")
	}
	wantAll(t, "other tables", s, v, Whole("t"), Whole("u"), Whole("w"))
}

func TestOneAtAllHasNoSpan(t *testing.T) {
	r := api.Read{Table: "t", Span: from(1, 5)}
	s := setOf(Part("t", "a", from(1, 5)))
	if !s.Add(r) || s.Add(r) || s.Add(Whole("t")) || s.Add(api.Read{Table: "t", Span: from(2, 3)}) || s.Add(Part("t", "a", from(7, 8))) {
		t.Error("it is one at all")
	}
	wantAll(t, "with a span", s, Whole("t"))
	if !s.Hit([]api.Touch{came("t", num(100))}) {
		t.Error("it sees all")
	}
}

// Names that may not be are names like others.
func TestAddOfAnyName(t *testing.T) {
	var s Set
	if !s.Add(api.Read{}) || s.Add(api.Read{}) || s.Add(Part("", "a", keys.All())) || !s.Add(Part("\x00", "a b", keys.All())) {
		t.Error(s.All())
	}
	wantAll(t, "no names", &s, api.Read{}, Part("\x00", "a b", keys.All()))
	if !s.Hit([]api.Touch{came("", num(1))}) || !s.Hit([]api.Touch{came("\x00", num(1))}) || s.Hit([]api.Touch{came("t", num(1))}) {
		t.Error("hit")
	}
}

func TestHit(t *testing.T) {
	s := setOf(Part("t", "a", from(1, 5)), Whole("u"), Part("v", "b", keys.Equal(value.None())))
	for what, x := range map[string]struct {
		l    []api.Touch
		want bool
	}{
		"nothing":                     {nil, false},
		"an empty list":               {[]api.Touch{}, false},
		"the first look":              {[]api.Touch{came("t", num(1))}, true},
		"the second one":              {[]api.Touch{went("u", num(1))}, true},
		"the last one":                {[]api.Touch{came("v", num(1))}, true},
		"none":                        {[]api.Touch{came("t", num(9)), came("v", with("b", value.Int(1))), shaped("w")}, false},
		"by the last of many":         {[]api.Touch{came("t", num(9)), shaped("w"), changed("t", num(9), num(1))}, true},
		"by the first of many":        {[]api.Touch{shaped("v"), came("t", num(9)), shaped("w")}, true},
		"what would be two as one":    {[]api.Touch{came("t", with("b", value.Int(1))), came("v", with("b", value.Int(1)))}, false},
		"one that neither was nor is": {[]api.Touch{{Table: "u"}}, false},
	} {
		if got := s.Hit(x.l); got != x.want {
			t.Errorf("%s: %v", what, got)
		}
	}
	var none Set
	if none.Hit([]api.Touch{shaped("t"), came("", num(1))}) {
		t.Error("a set that is empty is hit")
	}
}

// Looks whose place one at all took are seen by that one still.
func TestHitBehindOneAtAll(t *testing.T) {
	s := setOf(Part("t", "a", from(1, 5)), Part("u", "a", from(1, 5)), Whole("t"))
	if !s.Hit([]api.Touch{came("t", num(1))}) || !s.Hit([]api.Touch{came("t", num(9))}) || !s.Hit([]api.Touch{came("u", num(1))}) {
		t.Error("not hit")
	}
	if s.Hit([]api.Touch{came("u", num(9))}) {
		t.Error("the other table's look is at a part")
	}
}

func TestClone(t *testing.T) {
	a, b, c := Part("t", "a", from(1, 5)), Part("u", "a", from(1, 5)), Part("v", "a", from(1, 5))
	s := setOf(a, b)
	// With room behind what is there, both would write into one place, if they shared it.
	s.looks = slices.Grow(s.looks, 10)
	k := s.Clone()
	wantAll(t, "a clone", k, a, b)
	s.Add(Whole("t"))
	wantAll(t, "a clone of one that is changed", k, a, b)
	k.Add(c)
	s.Add(Whole("w"))
	wantAll(t, "the clone", k, a, b, c)
	wantAll(t, "the other one", s, b, Whole("t"), Whole("w"))
	var none Set
	k = none.Clone()
	if k == nil || !k.Add(a) || len(none.All()) != 0 {
		t.Error("a clone of one that is empty")
	}
	if k.Hit([]api.Touch{came("t", num(9))}) || !k.Hit([]api.Touch{came("t", num(4))}) {
		t.Error("a clone's hit")
	}
}

func TestNilSet(t *testing.T) {
	var s *Set
	if s.Add(Whole("t")) || s.Add(Part("t", "a", keys.All())) || len(s.All()) != 0 || s.Hit([]api.Touch{shaped("t")}) || s.Clone() != nil {
		t.Error("a nil set is something")
	}
}

// R2: what is handed out is the caller's own, what is handed in is not changed.
func TestApart(t *testing.T) {
	a, b := Part("t", "a", from(1, 5)), Part("u", "a", from(1, 5))
	s := setOf(a, b)
	l := s.All()
	l[0], l[1] = Whole("x"), Whole("y")
	_ = append(l[:1], Whole("z"))
	wantAll(t, "behind changes of what was handed out", s, a, b)
	l = s.All()
	s.Add(Whole("t"))
	if !slices.Equal(l, []api.Read{a, b}) {
		t.Error("what was handed out is changed:", l)
	}
	touches := []api.Touch{changed("t", num(1), num(2)), came("u", with("b", value.List(value.Int(1))))}
	was := fmt.Sprint(touches)
	s.Hit(touches)
	Hits(a, touches[0])
	if fmt.Sprint(touches) != was {
		t.Error("what was handed in is changed:", touches)
	}
}

// R6: documents that may not be are answered somehow.
func TestWhatMayNotBe(t *testing.T) {
	for _, v := range []api.Value{
		{Kind: -1}, {Kind: 99}, {Kind: api.Struct, Names: []string{"a"}}, {Kind: api.Struct, Parts: []api.Value{value.Int(1)}},
		{Kind: api.Struct, Names: []string{"a", "a"}, Parts: []api.Value{value.Int(9), value.Int(1)}}, value.List(num(1)),
	} {
		for _, r := range []api.Read{{}, Whole("t"), Part("t", "a", from(1, 5)), Part("t", "", from(5, 1)), shape("t")} {
			Hits(r, changed("t", v, v))
			setOf(r).Hit([]api.Touch{came("t", v), went("", v)})
		}
	}
}

// plainSet is a set as the chapter tells it, made otherwise: all looks that were ever added, in order.
type plainSet []api.Read

// wholeOf tells where the first look at all of a table is; -1: there is none.
func (p plainSet) wholeOf(table string) int {
	return slices.IndexFunc(p, func(r api.Read) bool { return r.Table == table && r.Field == "" })
}

func (p plainSet) has(r api.Read) bool { return p.wholeOf(r.Table) >= 0 || slices.Contains(p, r) }

func (p plainSet) all() []api.Read {
	var l []api.Read
	for i, r := range p {
		at := p.wholeOf(r.Table)
		switch {
		case at == i:
			l = append(l, api.Read{Table: r.Table})
		case at < 0 && slices.Index(p, r) == i:
			l = append(l, r)
		}
	}
	return l
}

func (p plainSet) hit(l []api.Touch) bool {
	for _, x := range l {
		for _, r := range p {
			if Hits(r, x) {
				return true
			}
		}
	}
	return false
}

// randomLook is one of few looks, so that they come again.
func randomLook(r *rand.Rand) api.Read {
	table := fmt.Sprint("t", r.Intn(6))
	low := int64(r.Intn(4))
	span := from(low, low+int64(r.Intn(3)))
	if r.Intn(25) == 0 {
		return api.Read{Table: table, Span: span}
	}
	return Part(table, string(rune('a'+r.Intn(2))), span)
}

func randomTouch(r *rand.Rand) api.Touch {
	doc := func() api.Value { return with(string(rune('a'+r.Intn(2))), value.Int(int64(r.Intn(6)))) }
	return api.Touch{
		Table: fmt.Sprint("t", r.Intn(8)), Shape: r.Intn(10) == 0, Old: doc(), New: doc(), Was: r.Intn(2) == 0, Is: r.Intn(2) == 0,
	}
}

// R4, and 16.1 of many sets: each answer is that of the plain set, and the same again.
func TestAgainstThePlainSet(t *testing.T) {
	for seed := range int64(60) {
		r := rand.New(rand.NewSource(seed))
		var s, again Set
		var p plainSet
		for range 80 {
			x := randomLook(r)
			want := !p.has(x)
			if s.Add(x) != want || again.Add(x) != want {
				t.Fatalf("seed %d: %q is new: want %v", seed, x, want)
			}
			p = append(p, x)
			wantAll(t, fmt.Sprint("seed ", seed), &s, p.all()...)
			wantAll(t, fmt.Sprint("seed ", seed, " again"), &again, p.all()...)
			l := []api.Touch{randomTouch(r), randomTouch(r)}[:r.Intn(3)]
			if got := s.Hit(l); got != p.hit(l) || s.Clone().Hit(l) != got {
				t.Fatalf("seed %d: hit by %v: %v", seed, l, got)
			}
		}
	}
}
