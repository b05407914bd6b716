package point_test

import (
	"bytes"
	"math/big"
	"math/rand"
	"slices"
	"testing"

	"pantile/api"
	"pantile/point"
)

// pair is a point straight by the chapter's words.
type pair struct{ x, y *big.Int }

// known is a point and the pair that it must be.
type known struct {
	point point.Point
	pair  pair
}

func number(n int64) *big.Int { return big.NewInt(n) }

// twoTo is a power of 2.
func twoTo(n uint) *big.Int { return new(big.Int).Lsh(number(1), n) }

// more is n and so many.
func more(n *big.Int, many int64) *big.Int { return new(big.Int).Add(n, number(many)) }

// prime is p.
func prime() *big.Int { return more(twoTo(255), -19) }

// order is L.
func order() *big.Int {
	n, _ := new(big.Int).SetString("27742317777372353535851937790883648493", 10)
	return n.Add(n, twoTo(252))
}

// times and plus reckon modulo p.
func times(x *big.Int, more ...*big.Int) *big.Int {
	out := new(big.Int).Set(x)
	for _, y := range more {
		out.Mul(out, y).Mod(out, prime())
	}
	return out
}

func plus(x, y *big.Int) *big.Int {
	out := new(big.Int).Add(x, y)
	return out.Mod(out, prime())
}

func negative(x *big.Int) *big.Int { return plus(new(big.Int).Neg(x), number(0)) }

func quotient(x, y *big.Int) *big.Int { return times(x, new(big.Int).ModInverse(y, prime())) }

// slope is d.
func slope() *big.Int { return quotient(negative(number(121665)), number(121666)) }

// sum is the chapter's sum.
func (p pair) sum(q pair) pair {
	all := times(slope(), p.x, p.y, q.x, q.y)
	return pair{
		quotient(plus(times(p.x, q.y), times(q.x, p.y)), plus(number(1), all)),
		quotient(plus(times(p.y, q.y), times(p.x, q.x)), plus(number(1), negative(all))),
	}
}

// opposite is the pair with -x.
func (p pair) opposite() pair { return pair{negative(p.x), p.y} }

// many is as many added up.
func (p pair) many(k *big.Int) pair {
	out := pair{number(0), number(1)}
	for at := k.BitLen() - 1; at >= 0; at-- {
		out = out.sum(out)
		if k.Bit(at) == 1 {
			out = out.sum(p)
		}
	}
	return out
}

// same tells whether two pairs are the same.
func (p pair) same(q pair) bool { return p.x.Cmp(q.x) == 0 && p.y.Cmp(q.y) == 0 }

// bytes are the pair's bytes.
func (p pair) bytes() []byte {
	out := lowestFirst(p.y)
	out[31] |= byte(p.x.Bit(0)) << 7
	return out
}

// pairOf is the pair of bytes, if they are one's.
func pairOf(b []byte) (pair, bool) {
	if len(b) != 32 {
		return pair{}, false
	}
	odd, y := uint(b[31]>>7), highestFirst(b)
	y.SetBit(y, 255, 0)
	if y.Cmp(prime()) >= 0 {
		return pair{}, false
	}
	square := times(y, y)
	x := quotient(plus(square, number(-1)), plus(times(slope(), square), number(1)))
	if x = new(big.Int).ModSqrt(x, prime()); x == nil || x.Sign() == 0 && odd == 1 {
		return pair{}, false
	}
	if x.Bit(0) != odd {
		x = negative(x)
	}
	return pair{x, y}, true
}

// lowestFirst is a number's 32 bytes.
func lowestFirst(n *big.Int) []byte { return sized(n, 32) }

// sized is a number's bytes, so many of them.
func sized(n *big.Int, size int) []byte {
	b := n.FillBytes(make([]byte, size))
	slices.Reverse(b)
	return b
}

// highestFirst is the number of bytes, the lowest first.
func highestFirst(b []byte) *big.Int {
	b = bytes.Clone(b)
	slices.Reverse(b)
	return new(big.Int).SetBytes(b)
}

// parsed is the point of a pair.
func parsed(t *testing.T, p pair) known {
	t.Helper()
	out, e := point.Parse(p.bytes())
	if e != api.OK {
		t.Fatalf("Parse of %x: %v", p.bytes(), e)
	}
	return known{out, p}
}

// is tells where a point is not the pair that it must be.
func is(t *testing.T, what string, p point.Point, want pair) {
	t.Helper()
	if got := p.Bytes(); !bytes.Equal(got, want.bytes()) {
		t.Errorf("%s: %x, not %x", what, got, want.bytes())
	}
}

// basePair is the base: y is 4/5, x even.
func basePair() pair {
	p, _ := pairOf(lowestFirst(quotient(number(4), number(5))))
	return p
}

// smallOrder are the eight pairs of which eight are nought.
func smallOrder() (out []pair) {
	// L of any pair is one of them; of this one eight in a row are all.
	for y := int64(2); ; y++ {
		p, ok := pairOf(lowestFirst(number(y)))
		if !ok {
			continue
		}
		p = p.many(order())
		if four := p.many(number(4)); four.x.Sign() == 0 && four.y.Cmp(number(1)) != 0 {
			for k := range int64(8) {
				out = append(out, p.many(number(k)))
			}
			return out
		}
	}
}

// pairs are nought and the base, others of small order, of L and of more, and their negatives.
func pairs() []pair {
	base, small := basePair(), smallOrder()
	out := append(slices.Clone(small), base, base.sum(base), base.many(number(3)), base.many(more(order(), -2)))
	out = append(out, base.sum(small[1]), base.sum(small[4]), base.many(twoTo(200)))
	for y, found := int64(3), 0; found < 4; y++ {
		if p, ok := pairOf(lowestFirst(number(y))); ok {
			out, found = append(out, p), found+1
		}
	}
	for _, p := range out[8:] {
		out = append(out, p.opposite())
	}
	return out
}

// points are the pairs' points: parsed, and come of sums, so that they are not kept as they were parsed.
func points(t *testing.T) (out []known) {
	t.Helper()
	base := parsed(t, basePair())
	for _, p := range pairs() {
		k := parsed(t, p)
		out = append(out, k, known{k.point.Plus(base.point).Minus(base.point), p})
	}
	out = append(out, known{point.Nought(), pair{number(0), number(1)}}, known{point.Base(), basePair()})
	return append(out, known{point.Base().Minus(point.Base()), pair{number(0), number(1)}})
}

// numbers are edges of numbers of up to 32 bytes: around 0, L and its multiples, words' ends, and the greatest.
func numbers() []*big.Int {
	out := []*big.Int{number(0), number(1), number(2), number(3), number(8), number(255), number(256)}
	for _, n := range []*big.Int{order(), new(big.Int).Lsh(order(), 1), new(big.Int).Mul(order(), number(8)), new(big.Int).Mul(order(), number(15))} {
		out = append(out, more(n, -1), n, more(n, 1))
	}
	for _, n := range []uint{63, 64, 127, 128, 192, 251, 252, 253, 255} {
		out = append(out, more(twoTo(n), -1), twoTo(n), more(twoTo(n), 1))
	}
	out = append(out, more(twoTo(256), -2), more(twoTo(256), -1))
	// L with a word more or less, so that each word is looked at.
	for _, n := range []uint{0, 64, 128, 192} {
		out = append(out, new(big.Int).Add(order(), twoTo(n)), new(big.Int).Sub(order(), twoTo(n)))
	}
	chance := rand.New(rand.NewSource(3))
	for _, n := range []uint{100, 253, 256} {
		out = append(out, new(big.Int).Rand(chance, twoTo(n)))
	}
	return out
}

// left is what is left of n modulo L, as bytes.
func left(n *big.Int) []byte { return lowestFirst(new(big.Int).Mod(n, order())) }

// are tells where bytes are not those that were wanted.
func are(t *testing.T, what string, got, want []byte) {
	t.Helper()
	if !bytes.Equal(got, want) {
		t.Errorf("%s: %x, not %x", what, got, want)
	}
}
