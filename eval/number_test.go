package eval

import (
	"math"
	"math/big"
	"math/rand"
	"testing"

	"parchment/api"
	"parchment/value"
)

// bigNumber is what a sign makes of two numbers, by numbers that are never too great; false: it is no int64.
func bigNumber(sign string, a, b int64) (int64, bool) {
	x, y, n := big.NewInt(a), big.NewInt(b), new(big.Int)
	switch sign {
	case "+":
		n.Add(x, y)
	case "-":
		n.Sub(x, y)
	case "*":
		n.Mul(x, y)
	}
	return n.Int64(), n.IsInt64()
}

// reckons holds a sign between two numbers against numbers that are never too great.
func reckons(t *testing.T, sign string, a, b int64) bool {
	t.Helper()
	x := bin(num(a), sign, num(b))
	n, fits := bigNumber(sign, a, b)
	if fits {
		comes(t, x, value.None(), api.Value{Kind: 2, N: n})
	} else {
		fails(t, x, value.None(), tooMuch)
	}
	return fits
}

// edges is numbers at which sums and products begin to be too great.
func edges() []int64 {
	l := []int64{0, 1, -1, 2, -2, 3, -3, 7, 10, -10, 1e9, -1e9}
	for _, n := range []int64{math.MaxInt64, math.MinInt64, math.MaxInt64 / 2, math.MinInt64 / 2, math.MaxInt64 / 3, math.MinInt64 / 3, 3037000499, -3037000499, 1 << 31, -1 << 31, 1 << 32, -1 << 32} {
		for k := range int64(5) {
			l = append(l, n+k-2)
		}
	}
	return l
}

// Promise 18.1: + - * of two numbers, at all edges; ErrOver, if the number is no int64.
func TestNumbers(t *testing.T) {
	over := map[string]int{}
	for _, sign := range numberSigns {
		for _, a := range edges() {
			for _, b := range edges() {
				if !reckons(t, sign, a, b) {
					over[sign]++
				}
			}
		}
	}
	for _, sign := range numberSigns {
		if over[sign] < 100 {
			t.Error(sign, over[sign])
		}
	}
}

// Promise 18.1: + - * of many numbers, at random, of each length.
func TestNumbersAtRandom(t *testing.T) {
	r := rand.New(rand.NewSource(18))
	any := func() int64 { return int64(r.Uint64()) >> r.Intn(64) }
	for range 30000 {
		for _, sign := range numberSigns {
			reckons(t, sign, any(), any())
		}
	}
}

// Promise 18.1, and the chapter's example: the least and the greatest numbers.
func TestNumbersThatAreTooGreat(t *testing.T) {
	most, least := num(math.MaxInt64), num(math.MinInt64)
	fails(t, parsed(t, "9223372036854775807 + 1"), doc(), 180)
	fails(t, parsed(t, "-9223372036854775807 - 2"), doc(), 180)
	fails(t, parsed(t, "9223372036854775807 * 2 = a"), doc(), 180)
	fails(t, bin(least, "-", num(1)), doc(), 180)
	fails(t, bin(num(0), "-", least), doc(), 180)
	fails(t, bin(least, "*", num(-1)), doc(), 180)
	fails(t, bin(num(-1), "*", least), doc(), 180)
	fails(t, neg(least), doc(), 180)
	fails(t, neg(neg(least)), doc(), 180)
	comes(t, bin(least, "+", most), doc(), value.Int(-1))
	comes(t, bin(num(-1), "-", least), doc(), value.Int(math.MaxInt64))
	comes(t, bin(least, "*", num(1)), doc(), value.Int(math.MinInt64))
	comes(t, bin(least, "*", num(0)), doc(), value.Int(0))
	comes(t, bin(num(0), "*", least), doc(), value.Int(0))
	comes(t, bin(bin(neg(most), "-", num(1)), "+", num(0)), doc(), value.Int(math.MinInt64))
	// On the way it is too great, whatever comes behind.
	fails(t, bin(bin(most, "+", num(1)), "-", num(1)), doc(), 180)
	fails(t, bin(bin(most, "*", num(2)), "*", num(0)), doc(), 180)
}

// Promise 18.1: - alone is 0 - x.
func TestMinus(t *testing.T) {
	for _, n := range edges() {
		if n != math.MinInt64 {
			comes(t, neg(num(n)), doc(), value.Int(-n))
			comes(t, neg(neg(num(n))), doc(), value.Int(n))
		}
	}
	for _, v := range kinds() {
		switch v.Kind {
		case 0:
			comes(t, neg(lit(v)), doc(), value.None())
		case 2:
		default:
			fails(t, neg(lit(v)), doc(), 131)
		}
	}
	comes(t, neg(path("a")), doc(), value.Int(-4))
	comes(t, neg(path("z")), doc(), value.None())
}

// Promise 18.1: a side of another kind is ErrType, also where the other side is nothing; else nothing makes nothing.
func TestNumbersOfOtherKinds(t *testing.T) {
	number := func(v api.Value) bool { return v.Kind == 0 || v.Kind == 2 }
	for _, sign := range numberSigns {
		for _, a := range append(kinds(), api.Value{Kind: 7}, api.Value{Kind: -1, N: 1}) {
			for _, b := range append(kinds(), api.Value{Kind: 7}, api.Value{Kind: -1, N: 1}) {
				x := bin(lit(a), sign, lit(b))
				switch {
				case !number(a) || !number(b):
					fails(t, x, doc(), 131)
				case a.Kind == 0 || b.Kind == 0:
					comes(t, x, doc(), api.Value{})
				default:
					reckons(t, sign, a.N, b.N)
				}
			}
		}
	}
}
