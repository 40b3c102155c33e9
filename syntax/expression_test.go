package syntax

import (
	"strings"
	"testing"

	"parchment/api"
)

// between are all words that stand between two sides, with their ranks as the chapter tells them.
var between = []struct {
	sign string
	rank int
}{
	{"OR", 0}, {"AND", 1}, {"=", 3}, {"<>", 3}, {"<", 3}, {"<=", 3}, {">", 3}, {">=", 3}, {"+", 4}, {"-", 4}, {"*", 5},
}

// Promise 12.1: literals.
func TestLiterals(t *testing.T) {
	means(t, "NULL", null())
	means(t, "TRUE", truth(true))
	means(t, "FALSE", truth(false))
	means(t, "0", num(0))
	means(t, "1", num(1))
	means(t, "9223372036854775807", num(9223372036854775807))
	means(t, "''", str(""))
	means(t, "'it''s'", str("it's"))
	means(t, "'1'", str("1"))
	means(t, "'\xff\x00'", str("\xff\x00"))
	means(t, "'"+strings.Repeat("a", 900)+"'", str(strings.Repeat("a", 900)))
	means(t, "x''", hexa(""))
	means(t, "x'00ff'", hexa("\x00\xff"))
}

// Promise 12.1: paths are names with points between them.
func TestPaths(t *testing.T) {
	means(t, "a", path("a"))
	means(t, "a.b", path("a.b"))
	means(t, "a . b\n.\tc", path("a.b.c"))
	means(t, "_._", path("_._"))
	long := strings.Repeat("a.", 200) + "b"
	means(t, long, path(long))
	for _, s := range []string{"|.a", "a.|", "a.|.b", "a.b.|", "a.|1", "a.|'b'", "a.|x'00'", "a.|(b)", "a.|-b", "a.|[b]", "a.|NOT", "a.|TRUE", "a |b", "a|(b)", "a|[1]", "a|{}", "a |'b'", "1|.a", "'a'|.b", "(a)|.b", "[a]|.b", "{a: 1}|.a", "NULL|.a", "a.b |c"} {
		wrong(t, wherever+s)
		wrong(t, "INSERT INTO t VALUE "+s)
	}
}

// Promise 12.1: each pair of words between two sides, in both orders, alone and with brackets.
func TestPairs(t *testing.T) {
	a, b, c := path("a"), num(2), str("c")
	for _, one := range between {
		means(t, "a "+one.sign+" 2", bin(a, one.sign, b))
		for _, two := range between {
			left := bin(bin(a, one.sign, b), two.sign, c)
			right := bin(a, one.sign, bin(b, two.sign, c))
			means(t, "(a "+one.sign+" 2) "+two.sign+" 'c'", left)
			means(t, "a "+one.sign+" (2 "+two.sign+" 'c')", right)
			text := "a " + one.sign + " 2 " + two.sign + " 'c'"
			switch {
			case one.rank == 3 && two.rank == 3:
				wrong(t, wherever+"a "+one.sign+" 2 |"+two.sign+" 'c'")
			case one.rank >= two.rank:
				means(t, text, left)
			default:
				means(t, text, right)
			}
		}
	}
}

// chained is the expression of sides with words between them, by the weakest of these, the last one of which parts it.
func chained(sides []api.Expr, words []int) api.Expr {
	if len(words) == 0 {
		return sides[0]
	}
	weakest := 0
	for i, w := range words {
		if between[w].rank <= between[words[weakest]].rank {
			weakest = i
		}
	}
	return bin(chained(sides[:weakest+1], words[:weakest]), between[words[weakest]].sign, chained(sides[weakest+1:], words[weakest+1:]))
}

// secondComparison is which word is a comparison behind another one, with neither AND nor OR between them; -1: none.
func secondComparison(words []int) int {
	compared := false
	for i, w := range words {
		switch between[w].rank {
		case 0, 1:
			compared = false
		case 3:
			if compared {
				return i
			}
			compared = true
		}
	}
	return -1
}

// Promise 12.1: each chain of up to four words between sides groups as the weakest of them, the last one, parts it.
func TestChains(t *testing.T) {
	names := []string{"a", "b.b", "c", "d", "e"}
	var walk func(words []int)
	walk = func(words []int) {
		text := wherever + names[0]
		sides := []api.Expr{path(names[0])}
		place := -1
		for i, w := range words {
			if i == secondComparison(words) {
				place = len(text) + 1
			}
			text += " " + between[w].sign + " " + names[i+1]
			sides = append(sides, path(names[i+1]))
		}
		if place >= 0 {
			refused(t, text, place, 120)
		} else {
			parsed(t, text, api.Stmt{Kind: 5, Table: "t", Where: chained(sides, words), Limit: -1})
		}
		if len(words) == 4 {
			return
		}
		for w := range between {
			walk(append(words[:len(words):len(words)], w))
		}
	}
	walk(nil)
}

// Promise 12.1: several of one strength behind one another group from the left.
func TestFromTheLeft(t *testing.T) {
	for _, o := range between {
		if o.rank == 3 {
			continue
		}
		text, want := "a", path("a")
		for n := range int64(40) {
			text += " " + o.sign + " " + string('0'+rune(n%10))
			want = bin(want, o.sign, num(n%10))
		}
		means(t, text, want)
	}
	a := path("a")
	means(t, "a - a - a", bin(bin(a, "-", a), "-", a))
	means(t, "a - (a - a)", bin(a, "-", bin(a, "-", a)))
	means(t, "a - a + a - a", bin(bin(bin(a, "-", a), "+", a), "-", a))
}

// Promise 12.1: NOT binds more weakly than comparisons, more strongly than AND.
func TestNot(t *testing.T) {
	a, b, c := path("a"), path("b"), path("c")
	means(t, "NOT a", not(a))
	means(t, "NOT NOT a", not(not(a)))
	means(t, "NOT NOT NOT a = b", not(not(not(bin(a, "=", b)))))
	means(t, "NOT (NOT a)", not(not(a)))
	means(t, "NOT -a", not(neg(a)))
	means(t, "NOT [a]", not(list(a)))
	means(t, "NOT a.b", not(path("a.b")))
	means(t, "NOT NULL", not(null()))
	for _, o := range between {
		if o.rank < 2 {
			means(t, "NOT a "+o.sign+" b", bin(not(a), o.sign, b))
			means(t, "a "+o.sign+" NOT b", bin(a, o.sign, not(b)))
			means(t, "NOT a "+o.sign+" NOT NOT b", bin(not(a), o.sign, not(not(b))))
		} else {
			means(t, "NOT a "+o.sign+" b", not(bin(a, o.sign, b)))
			means(t, "NOT NOT a "+o.sign+" b", not(not(bin(a, o.sign, b))))
			wrong(t, wherever+"a "+o.sign+" |NOT b")
			wrong(t, wherever+"NOT a "+o.sign+" |NOT b")
		}
		means(t, "(NOT a) "+o.sign+" b", bin(not(a), o.sign, b))
		means(t, "a "+o.sign+" (NOT b)", bin(a, o.sign, not(b)))
		means(t, "NOT (a "+o.sign+" b)", not(bin(a, o.sign, b)))
	}
	means(t, "a AND NOT b = c OR NOT a", bin(bin(a, "AND", not(bin(b, "=", c))), "OR", not(a)))
	means(t, "NOT a OR b AND NOT c", bin(not(a), "OR", bin(b, "AND", not(c))))
	wrong(t, wherever+"-|NOT a")
	wrong(t, wherever+"- -|NOT a")
	wrong(t, wherever+"a |NOT b")
	wrong(t, wherever+"NOT|")
	wrong(t, wherever+"NOT |)")
	wrong(t, wherever+"NOT |= a")
	wrong(t, wherever+"NOT |AND a")
	wrong(t, wherever+"NOT |IS NULL")
	wrong(t, wherever+"a |NOT")
}

// Promise 12.1: IS NULL and IS NOT NULL stand behind at most one comparison, at most once.
func TestIsNull(t *testing.T) {
	a, b, c := path("a"), path("b"), path("c")
	means(t, "a IS NULL", isNull(a))
	means(t, "a IS NOT NULL", not(isNull(a)))
	means(t, "NULL IS NULL", isNull(null()))
	means(t, "NOT a IS NULL", not(isNull(a)))
	means(t, "NOT a IS NOT NULL", not(not(isNull(a))))
	means(t, "-a IS NULL", isNull(neg(a)))
	means(t, "[] IS NOT NULL", not(isNull(list())))
	means(t, "(a IS NULL) IS NULL", isNull(isNull(a)))
	means(t, "(a IS NOT NULL) IS NOT NULL", not(isNull(not(isNull(a)))))
	for _, o := range between {
		null, notNull := bin(a, o.sign, isNull(b)), bin(a, o.sign, not(isNull(b)))
		if o.rank >= 3 {
			null, notNull = isNull(bin(a, o.sign, b)), not(isNull(bin(a, o.sign, b)))
			wrong(t, wherever+"a IS NULL |"+o.sign+" b")
			wrong(t, wherever+"a IS NOT NULL |"+o.sign+" b")
			wrong(t, wherever+"a = c IS NULL |"+o.sign+" b")
		} else {
			means(t, "a IS NULL "+o.sign+" b", bin(isNull(a), o.sign, b))
			means(t, "a IS NOT NULL "+o.sign+" b IS NULL", bin(not(isNull(a)), o.sign, isNull(b)))
		}
		means(t, "a "+o.sign+" b IS NULL", null)
		means(t, "a "+o.sign+" b IS NOT NULL", notNull)
		means(t, "a "+o.sign+" (b IS NULL)", bin(a, o.sign, isNull(b)))
		means(t, "(a IS NULL) "+o.sign+" b", bin(isNull(a), o.sign, b))
	}
	means(t, "a + b < -c * 2 IS NOT NULL AND c", bin(not(isNull(bin(bin(a, "+", b), "<", bin(neg(c), "*", num(2))))), "AND", c))
	for _, s := range []string{
		"a IS NULL |IS NULL", "a IS NULL |IS NOT NULL", "a IS NOT NULL |IS NULL", "a IS NOT NULL |IS NOT NULL", "a = b IS NULL |IS NULL",
		"a IS|", "a IS |a", "a IS |TRUE", "a IS |1", "a IS |)", "a IS |AND b", "a IS |IS NULL", "a IS |(NULL)", "a IS |= NULL",
		"a IS NOT|", "a IS NOT |a", "a IS NOT |TRUE", "a IS NOT |NOT NULL", "a IS NOT |AND b",
		"|IS NULL", "|IS NOT NULL", "a = |IS NULL", "a AND |IS NULL", "a IS NULL |a", "a IS NULL |NULL", "a IS NULL |NOT", "a |NULL", "a |NOT NULL",
	} {
		wrong(t, wherever+s)
	}
}

// Promise 12.1: - ahead of one of the strongest, itself among them.
func TestMinus(t *testing.T) {
	a, b := path("a"), path("b")
	means(t, "-1", neg(num(1)))
	means(t, "- 1", neg(num(1)))
	means(t, "-9223372036854775807", neg(num(9223372036854775807)))
	refused(t, wherever+"-9223372036854775808", len(wherever)+1, 110)
	means(t, "--1", neg(neg(num(1))))
	means(t, "- - -a", neg(neg(neg(a))))
	means(t, "-a.b", neg(path("a.b")))
	means(t, "-'x'", neg(str("x")))
	means(t, "-x'00'", neg(hexa("\x00")))
	means(t, "-NULL", neg(null()))
	means(t, "-(a + b)", neg(bin(a, "+", b)))
	means(t, "-(NOT a)", neg(not(a)))
	means(t, "-[-a]", neg(list(neg(a))))
	means(t, "-{a: -b}", neg(fields("a", neg(b))))
	for _, o := range between {
		means(t, "-a "+o.sign+" b", bin(neg(a), o.sign, b))
		means(t, "a "+o.sign+" -b", bin(a, o.sign, neg(b)))
		means(t, "--a "+o.sign+" --b", bin(neg(neg(a)), o.sign, neg(neg(b))))
	}
	means(t, "a-1", bin(a, "-", num(1)))
	means(t, "a--1", bin(a, "-", neg(num(1))))
	means(t, "a---1", bin(a, "-", neg(neg(num(1)))))
	for _, s := range []string{"-|", "--|", "-|)", "-|+1", "-|*1", "|+1", "|+a", "a + |+ b", "a - |* b", "1 -|", "-|= 1", "-|AND a", "-|, 1", "-|IS NULL", "a -|OR b"} {
		wrong(t, wherever+s)
	}
}

// Promise 12.1: an expression in brackets is that expression.
func TestBrackets(t *testing.T) {
	a, b, c := path("a"), path("b"), path("c")
	means(t, "(a)", a)
	means(t, "((a))", a)
	means(t, "(((1)))", num(1))
	means(t, "(a OR b)", bin(a, "OR", b))
	means(t, "(a OR b) AND c", bin(bin(a, "OR", b), "AND", c))
	means(t, "a * (b + c)", bin(a, "*", bin(b, "+", c)))
	means(t, "(a = b) = c", bin(bin(a, "=", b), "=", c))
	means(t, "a = (b = c)", bin(a, "=", bin(b, "=", c)))
	means(t, "(a = b) = (b = c)", bin(bin(a, "=", b), "=", bin(b, "=", c)))
	means(t, "((a) + ((b)))", bin(a, "+", b))
	for _, s := range []string{
		"(|)", "(a|", "(|", "((a)|", "((|", "(a)|)", "|)", "|)(", "a|)", "(a|]", "(a|}", "(a|, b)", "(a |b)", "(a) |b", "(a)|(b)", "a|(b)", "1 |(2)", "(a = b |= c)",
		"(a +|)", "(|+ a)", "(|AND a)", "(NOT|)", "(a IS|)", "(a IS NOT|)", "(a = b IS NULL |IS NULL)", "(a|: 1)", "(|* )", "(a.|)", "(|FROM)", "(a |WHERE b)",
	} {
		wrong(t, wherever+s)
		wrong(t, "UPDATE t SET a = 1, b = "+s)
	}
}

// Promise 12.1: lists, that are empty, of one part, of several, within one another.
func TestLists(t *testing.T) {
	a, b := path("a"), path("b")
	means(t, "[]", list())
	means(t, "[ ]", list())
	means(t, "[a]", list(a))
	means(t, "[a, a]", list(a, a))
	means(t, "[1,'x',NULL,b]", list(num(1), str("x"), null(), b))
	means(t, "[[]]", list(list()))
	means(t, "[[], [[a], b], {}]", list(list(), list(list(a), b), fields("")))
	means(t, "[a OR b, NOT a, a = b IS NULL, a + b, -a]", list(bin(a, "OR", b), not(a), isNull(bin(a, "=", b)), bin(a, "+", b), neg(a)))
	means(t, "[(a), (b)]", list(a, b))
	means(t, "[a] + [b]", bin(list(a), "+", list(b)))
	means(t, "[a] = [] AND b", bin(bin(list(a), "=", list()), "AND", b))
	for _, s := range []string{
		"[|", "[a|", "[a,|", "[a|)", "[a|}", "[|)", "[|}", "[|, a]", "[a, |]", "[a,|, b]", "[|,]", "[a |b]", "[a|: b]", "[a]|]", "|]", "[a] |[b]", "[a]|a", "[[a]|", "[[|", "[[a|) ]", "[a = b |= a]", "[|*]", "[a, |*]", "[|FROM]", "[a, b |c]",
	} {
		wrong(t, wherever+s)
		wrong(t, "INSERT INTO t VALUE {a: []} = "+s)
	}
}

// Promise 12.1: structs, that are empty, of one part, of several, within one another; which names may be is not told here.
func TestStructs(t *testing.T) {
	a, b := path("a"), path("b")
	means(t, "{}", fields(""))
	means(t, "{ }", fields(""))
	means(t, "{a: 1}", fields("a", num(1)))
	means(t, "{b:a,a:b}", fields("b a", a, b))
	means(t, "{a: 1, a: 2, a: 1}", fields("a a a", num(1), num(2), num(1)))
	means(t, "{a: {a: {}}, b: []}", fields("a b", fields("a", fields("")), list()))
	means(t, "{a: a OR b, b: NOT a, c: a = b IS NULL}", fields("a b c", bin(a, "OR", b), not(a), isNull(bin(a, "=", b))))
	means(t, "{a: a.b}", fields("a", path("a.b")))
	means(t, "{a: 1} = {}", bin(fields("a", num(1)), "=", fields("")))
	for _, s := range []string{
		"{|", "{a|", "{a:|", "{a: 1|", "{a: 1,|", "{a: 1, b|", "{a|}", "{a:|}", "{a: 1, |}", "{|, a: 1}", "{a: 1,|, b: 2}", "{a: 1 |b: 2}", "{|1}", "{|1: 1}", "{|'a': 1}", "{|x'61': 1}", "{|NULL: 1}", "{|(a): 1}", "{|[a]: 1}", "{|-a: 1}",
		"{a|.b: 1}", "{a|= 1}", "{a |1}", "{a: 1|: 2}", "{a:|: 1}", "{a: 1|)", "{a: 1|]", "{|)", "{|]", "{a: 1}|}", "|}", "{a: 1}|{b: 1}", "{a: {b|}}", "{a|, b}", "{|*}", "{a: |*}", "{|FROM: 1}",
	} {
		wrong(t, wherever+s)
		wrong(t, "INSERT INTO t VALUE "+s)
	}
}

// Promise 12.1: words that begin no expression, where one must stand; words that go on with none, where one has ended.
func TestOtherWords(t *testing.T) {
	starts := []string{"-", "(", "[", "{", "NULL", "TRUE", "FALSE", "NOT"}
	goesOn := []string{"OR", "AND", "=", "<>", "<", "<=", ">", ">=", "+", "-", "*", "IS"}
	ended := map[string]bool{}
	for _, k := range goesOn {
		ended[k] = true
	}
	for _, k := range append(strings.Fields(allKeys), strings.Fields(allSigns)...) {
		begins := false
		for _, s := range starts {
			begins = begins || s == k
		}
		if !begins {
			for _, ahead := range []string{"", "(", "[", "[1, ", "{a: ", "NOT ", "-", "a = ", "a OR ", "a AND ", "a + ", "a * ", "a IS NULL AND "} {
				if !(ahead == "[" && k == "]") {
					wrong(t, wherever+ahead+"|"+k+" a")
				}
			}
		}
		if ended[k] {
			continue
		}
		for _, whole := range []string{"1", "'a'", "x'00'", "NULL", "TRUE", "[a]", "{a: 1}", "(a)", "-1", "a = 1", "a IS NULL", "a IS NOT NULL", "NOT 1", "1 OR 1"} {
			wrong(t, wherever+whole+" |"+k+" a")
		}
	}
}
