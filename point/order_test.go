package point_test

import (
	"bytes"
	"math/big"
	"math/rand"
	"slices"
	"testing"

	"pantile/point"
)

// long are numbers of up to 64 bytes: the edges of 32, multiples of L and their neighbours, and the greatest.
func long() []*big.Int {
	out := numbers()
	for _, by := range []*big.Int{more(order(), -1), order(), twoTo(64), twoTo(252), more(twoTo(259), -1)} {
		n := new(big.Int).Mul(order(), by)
		out = append(out, more(n, -1), n, more(n, 1))
	}
	for _, n := range []uint{256, 257, 320, 384, 448, 504, 511} {
		out = append(out, more(twoTo(n), -1), twoTo(n), more(twoTo(n), 1))
	}
	most := more(twoTo(512), -1)
	last := new(big.Int).Sub(most, new(big.Int).Mod(most, order()))
	out = append(out, most, more(most, -1), more(last, -1), last, more(last, 1))
	chance := rand.New(rand.NewSource(4))
	for range 50 {
		out = append(out, new(big.Int).Rand(chance, twoTo(512)))
	}
	return out
}

// P3.3: what is left of numbers of 64 bytes, of 32, and of as few as hold them.
func TestLeft(t *testing.T) {
	for _, n := range long() {
		want := left(n)
		are(t, "of 64 bytes", point.Left(sized(n, 64)), want)
		few := (n.BitLen() + 7) / 8
		are(t, "of few bytes", point.Left(sized(n, few)), want)
		if few <= 32 {
			are(t, "of 32 bytes", point.Left(sized(n, 32)), want)
		}
	}
	for length := range 65 {
		b := bytes.Repeat([]byte{0xe7}, length)
		are(t, "of any length", point.Left(b), left(highestFirst(b)))
		b = bytes.Repeat([]byte{255}, length)
		are(t, "the greatest of any length", point.Left(b), left(highestFirst(b)))
	}
}

// P3.3: nothing, and noughts: 32 bytes all the same.
func TestLeftOfNothing(t *testing.T) {
	for _, b := range [][]byte{nil, {}, {0}, make([]byte, 32), make([]byte, 64), make([]byte, 100), lowestFirst(order())} {
		are(t, "Left", point.Left(b), make([]byte, 32))
	}
	are(t, "L - 1", point.Left(lowestFirst(more(order(), -1))), lowestFirst(more(order(), -1)))
	are(t, "L + 1", point.Left(lowestFirst(more(order(), 1))), lowestFirst(number(1)))
}

// P3.3: of more than 64 bytes the first 64 count.
func TestLeftOfMoreBytes(t *testing.T) {
	for _, n := range []*big.Int{number(0), number(1), order(), more(twoTo(511), 5), more(twoTo(512), -1)} {
		for _, beyond := range [][]byte{{0}, {1}, {255}, bytes.Repeat([]byte{9}, 64), bytes.Repeat([]byte{255}, 200)} {
			are(t, "Left", point.Left(slices.Concat(sized(n, 64), beyond)), left(n))
		}
	}
}

// combined is the model's Combine.
func combined(a, b, c *big.Int) []byte {
	n := new(big.Int).Mul(a, b)
	return left(n.Add(n, c))
}

// P3.3: all edges by all, and more.
func TestCombine(t *testing.T) {
	all := numbers()
	for i, a := range all {
		for j, b := range all {
			for _, c := range []*big.Int{number(0), all[(i*7+j*3)%len(all)], more(twoTo(256), -1)} {
				are(t, "Combine", point.Combine(lowestFirst(a), lowestFirst(b), lowestFirst(c)), combined(a, b, c))
			}
		}
	}
	chance := rand.New(rand.NewSource(5))
	for range 300 {
		a, b, c := new(big.Int).Rand(chance, twoTo(256)), new(big.Int).Rand(chance, twoTo(256)), new(big.Int).Rand(chance, twoTo(256))
		are(t, "Combine", point.Combine(lowestFirst(a), lowestFirst(b), lowestFirst(c)), combined(a, b, c))
	}
	are(t, "3, 4, 5", point.Combine([]byte{3}, []byte{4}, []byte{5}), lowestFirst(number(17)))
}

// P3.3: numbers of no bytes, of few and of unlike lengths.
func TestCombineOfFewBytes(t *testing.T) {
	are(t, "of nothing", point.Combine(nil, nil, nil), make([]byte, 32))
	are(t, "of no first", point.Combine(nil, []byte{4}, []byte{5}), lowestFirst(number(5)))
	are(t, "of no second", point.Combine([]byte{3}, []byte{}, []byte{5}), lowestFirst(number(5)))
	are(t, "of no third", point.Combine([]byte{3}, []byte{4}, nil), lowestFirst(number(12)))
	for length := range 33 {
		a, b, c := bytes.Repeat([]byte{0xfb}, length), bytes.Repeat([]byte{0xd9}, 32-length), bytes.Repeat([]byte{0xff}, length/2)
		are(t, "of few", point.Combine(a, b, c), combined(highestFirst(a), highestFirst(b), highestFirst(c)))
	}
}

// P3.3: of more than 32 bytes the first 32 count, of each of the three.
func TestCombineOfMoreBytes(t *testing.T) {
	greatest := more(twoTo(256), -1)
	for _, n := range []*big.Int{number(0), number(6), more(order(), 1), greatest} {
		for _, beyond := range [][]byte{{1}, {255}, bytes.Repeat([]byte{255}, 32), bytes.Repeat([]byte{3}, 99)} {
			x, y := slices.Concat(lowestFirst(n), beyond), lowestFirst(greatest)
			are(t, "first", point.Combine(x, y, y), combined(n, greatest, greatest))
			are(t, "second", point.Combine(y, x, y), combined(greatest, n, greatest))
			are(t, "third", point.Combine(y, y, x), combined(greatest, greatest, n))
			are(t, "all", point.Combine(x, x, x), combined(n, n, n))
		}
	}
}

// P3.3: 0, L - 1, L, L + 1, numbers that differ from L in one bit, the greatest.
func TestSmall(t *testing.T) {
	all := append(numbers(), more(twoTo(255), -1))
	for bit := range uint(256) {
		all = append(all, new(big.Int).SetBit(order(), int(bit), 1-order().Bit(int(bit))), twoTo(bit))
	}
	for _, n := range all {
		if got := point.Small(lowestFirst(n)); got != (n.Cmp(order()) < 0) {
			t.Errorf("Small of %x: %v", n, got)
		}
	}
	for _, n := range long() {
		if !point.Small(point.Left(sized(n, 64))) {
			t.Errorf("what is left of %x is not small", n)
		}
	}
}

// P3.3: bytes of other lengths than 32 are no small number's.
func TestSmallOtherLengths(t *testing.T) {
	if point.Small(nil) {
		t.Error("nil")
	}
	for length := range 100 {
		if point.Small(make([]byte, length)) != (length == 32) {
			t.Errorf("%d noughts", length)
		}
	}
	one := lowestFirst(number(1))
	if point.Small(one[:31]) || point.Small(append(one, 0)) {
		t.Error("1 in 31 or 33 bytes")
	}
}

// P3.5: what is left of sums and products goes together.
func TestLeftGoesTogether(t *testing.T) {
	one, all := []byte{1}, numbers()
	plus := func(a, b []byte) []byte { return point.Combine(a, one, b) }
	times := func(a, b []byte) []byte { return point.Combine(a, b, nil) }
	for i, n := range all {
		a, b, c := lowestFirst(n), lowestFirst(all[(i*5+2)%len(all)]), lowestFirst(all[(i*11+6)%len(all)])
		are(t, "Left twice", point.Left(point.Left(a)), point.Left(a))
		are(t, "a and 0", plus(a, nil), point.Left(a))
		are(t, "a by 1", times(a, one), point.Left(a))
		are(t, "a + b", plus(a, b), plus(b, a))
		are(t, "a b", times(a, b), times(b, a))
		are(t, "a b + c", point.Combine(a, b, c), plus(times(a, b), c))
		are(t, "what is left of each", point.Combine(point.Left(a), point.Left(b), point.Left(c)), point.Combine(a, b, c))
		are(t, "(a + b) + c", plus(plus(a, b), c), plus(a, plus(b, c)))
		are(t, "(a b) c", times(times(a, b), c), times(a, times(b, c)))
		are(t, "a (b + c)", times(a, plus(b, c)), plus(times(a, b), times(a, c)))
	}
}

// P3.4, P3.5: numbers of bases, combined.
func TestCombinedBases(t *testing.T) {
	base, all := point.Base(), numbers()
	for i, n := range all {
		a, b, c := lowestFirst(n), lowestFirst(all[(i*7+5)%len(all)]), lowestFirst(all[(i*3+1)%len(all)])
		if !point.Same(base.Times(point.Combine(a, b, c)), base.Times(a).Times(b).Plus(base.Times(c))) {
			t.Errorf("of %x, %x, %x", a, b, c)
		}
	}
}
