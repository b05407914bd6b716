package field_test

import (
	"bytes"
	"math/big"
	"slices"
	"testing"

	"pantile/api"
	"pantile/field"
)

// known is a residue and the number, from 0 to p - 1, that it must stand for.
type known struct {
	num field.Num
	big *big.Int
}

func number(n int64) *big.Int { return big.NewInt(n) }

// twoTo is a power of 2.
func twoTo(n uint) *big.Int { return new(big.Int).Lsh(number(1), n) }

// prime is 2^255 - 19.
func prime() *big.Int { return new(big.Int).Sub(twoTo(255), number(19)) }

// below is so many below n.
func below(n *big.Int, many int64) *big.Int { return new(big.Int).Sub(n, number(many)) }

// modulo is what is left of n modulo p.
func modulo(n *big.Int) *big.Int { return new(big.Int).Mod(n, prime()) }

// lowestFirst is a number's 32 bytes.
func lowestFirst(n *big.Int) []byte {
	b := n.FillBytes(make([]byte, 32))
	slices.Reverse(b)
	return b
}

// highestFirst is the number of bytes, the lowest first.
func highestFirst(b []byte) *big.Int {
	b = bytes.Clone(b)
	slices.Reverse(b)
	return new(big.Int).SetBytes(b)
}

// parsed is the residue of a number.
func parsed(t *testing.T, n *big.Int) known {
	t.Helper()
	x, e := field.Parse(lowestFirst(n))
	if e != api.OK {
		t.Fatalf("Parse of %x: %v", n, e)
	}
	return known{x, n}
}

// is tells where a residue does not stand for the number.
func is(t *testing.T, what string, x field.Num, want *big.Int) {
	t.Helper()
	if got := x.Form(); !bytes.Equal(got, lowestFirst(want)) {
		t.Errorf("%s: %x, not %x", what, got, lowestFirst(want))
	}
}

// edges are numbers at the ends of the field, of an int, of a limb of 51 and of one of 64 bits, and some in between.
func edges() []*big.Int {
	p := prime()
	out := []*big.Int{below(p, 1), below(p, 2), below(p, 18), below(p, 19), below(p, 20), below(p, 38)}
	for _, n := range []int64{0, 1, 2, 3, 4, 5, 18, 19, 20, 38, 121665, 121666} {
		out = append(out, number(n))
	}
	for _, n := range []uint{8, 51, 63, 64, 102, 128, 153, 192, 204, 253, 254} {
		out = append(out, below(twoTo(n), 1), twoTo(n), below(twoTo(n), -1))
	}
	half := new(big.Int).Rsh(p, 1)
	out = append(out, half, below(half, -1), below(twoTo(255), 20+1<<51))
	for _, n := range []int64{2, 5, 7, 121666} {
		out = append(out, new(big.Int).ModInverse(number(n), p), new(big.Int).Exp(number(n), number(1000003), p))
	}
	return out
}

// knownEdges are the residues of the edges.
func knownEdges(t *testing.T) (out []known) {
	t.Helper()
	for _, n := range edges() {
		out = append(out, parsed(t, n))
	}
	return out
}

func plus(x, y known) known {
	return known{x.num.Plus(y.num), modulo(new(big.Int).Add(x.big, y.big))}
}

func minus(x, y known) known {
	return known{x.num.Minus(y.num), modulo(new(big.Int).Sub(x.big, y.big))}
}

func times(x, y known) known {
	return known{x.num.Times(y.num), modulo(new(big.Int).Mul(x.big, y.big))}
}

// reckoned are residues that came of sums, differences and products, 0 and 1 and p - 1 among them in many ways.
func reckoned(t *testing.T) (out []known) {
	t.Helper()
	of := func(n *big.Int) known { return parsed(t, modulo(n)) }
	for _, n := range []*big.Int{number(0), number(1), number(18), number(19), below(prime(), 1), below(twoTo(51), 1), twoTo(204), twoTo(254), new(big.Int).Rsh(prime(), 1)} {
		x := of(n)
		opposite := of(new(big.Int).Neg(n))
		out = append(out, plus(x, opposite), minus(x, x), minus(opposite, x), plus(x, x), times(x, x), times(x, opposite))
		out = append(out, minus(x, of(below(n, 1))), minus(of(below(n, 1)), x), plus(minus(x, of(below(n, 18))), of(below(prime(), 18))))
		if n.Sign() != 0 {
			out = append(out, times(x, of(new(big.Int).ModInverse(n, prime()))))
		}
	}
	most := parsed(t, below(prime(), 1))
	for range 8 {
		most = minus(plus(most, most), times(most, most))
		out = append(out, most)
	}
	return out
}
