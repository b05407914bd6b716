package field_test

import (
	"bytes"
	"math"
	"math/big"
	"math/rand"
	"slices"
	"testing"

	"pantile/api"
	"pantile/field"
)

// P2.1: numbers at both ends of an int, around 0 and around a limb's end.
func TestOf(t *testing.T) {
	for _, n := range []int{
		0, 1, 2, 18, 19, 20, 255, 256, 65535, 121665,
		1<<51 - 2, 1<<51 - 1, 1 << 51, 1<<51 + 1, 1<<52 - 1, 1 << 62, math.MaxInt - 1, math.MaxInt,
		-1, -2, -18, -19, -20, -256, -121665,
		1 - 1<<51, -1 << 51, -1 - 1<<51, -1 << 62, math.MinInt + 1, math.MinInt,
	} {
		is(t, "Of", field.Of(n), modulo(number(int64(n))))
	}
	first, last := field.Of(-1).Form()[0], field.Of(-1).Form()[31]
	if first != 0xec || last != 0x7f {
		t.Errorf("Of(-1): %x .. %x", first, last)
	}
}

// P2.1: the zero Num stands for 0 wherever it stands.
func TestZeroNum(t *testing.T) {
	var zero field.Num
	five := field.Of(5)
	is(t, "Form", zero, number(0))
	is(t, "Plus", five.Plus(zero), number(5))
	is(t, "Minus", five.Minus(zero), number(5))
	is(t, "Minus of it", zero.Minus(five), below(prime(), 5))
	is(t, "Times", five.Times(zero), number(0))
	is(t, "Inverse", zero.Inverse(), number(0))
	if !field.Same(zero, field.Of(0)) || field.Same(zero, five) {
		t.Error("Same")
	}
}

// P2.1: forms are told again as they came; those of ints are Of's.
func TestParseAndForm(t *testing.T) {
	for _, n := range edges() {
		x := parsed(t, n)
		is(t, "Parse", x.num, n)
		if n.IsInt64() && !field.Same(x.num, field.Of(int(n.Int64()))) {
			t.Errorf("Parse of %v is not Of", n)
		}
		if got := x.num.Form(); len(got) != 32 || got[31] > 127 {
			t.Errorf("Form: %x", got)
		}
	}
	for bit := range uint(255) {
		is(t, "a bit", parsed(t, twoTo(bit)).num, twoTo(bit))
	}
}

// refused tells where bytes are parsed, or refused otherwise than the document says.
func refused(t *testing.T, b []byte) {
	t.Helper()
	if x, e := field.Parse(b); e != api.ErrBytes || x != (field.Num{}) {
		t.Errorf("Parse of %x: %x, %v", b, x.Form(), e)
	}
}

// P2.1: bytes of other lengths than 32.
func TestParseOtherLengths(t *testing.T) {
	refused(t, nil)
	for length := range 100 {
		if length != 32 {
			refused(t, make([]byte, length))
			refused(t, bytes.Repeat([]byte{1}, length))
		}
	}
	form := field.Of(-2).Form()
	refused(t, form[:31])
	refused(t, append(form, 0))
}

// P2.1: p itself and all beyond it.
func TestParseBeyond(t *testing.T) {
	for many := int64(0); many < 40; many++ {
		refused(t, lowestFirst(below(prime(), -many)))
	}
	for _, n := range edges() {
		refused(t, lowestFirst(new(big.Int).Add(n, twoTo(255))))
	}
	refused(t, bytes.Repeat([]byte{255}, 32))
	refused(t, lowestFirst(new(big.Int).Lsh(prime(), 1)))
}

// inTwos tells where a sum, a difference, a product or Same is not right for two.
func inTwos(t *testing.T, x, y known) {
	t.Helper()
	for what, z := range map[string]known{"Plus": plus(x, y), "Minus": minus(x, y), "Times": times(x, y)} {
		is(t, what, z.num, z.big)
	}
	if field.Same(x.num, y.num) != (x.big.Cmp(y.big) == 0) {
		t.Errorf("Same of %x and %x", x.big, y.big)
	}
}

// P2.2: all edges by all, and by what came of sums, differences and products.
func TestSumsDifferencesProducts(t *testing.T) {
	all := append(knownEdges(t), reckoned(t)...)
	for _, x := range all {
		for _, y := range all {
			inTwos(t, x, y)
		}
	}
}

// P2.2: what is reckoned on and on, and told only now and then.
func TestReckonedOn(t *testing.T) {
	chance := rand.New(rand.NewSource(1))
	on := []func(x, y known) known{plus, minus, times}
	for range 20 {
		cells := knownEdges(t)
		for range 2000 {
			x, y := cells[chance.Intn(len(cells))], cells[chance.Intn(len(cells))]
			cells[chance.Intn(len(cells))] = on[chance.Intn(len(on))](x, y)
		}
		for i, x := range cells {
			is(t, "reckoned on", x.num, x.big)
			inTwos(t, x, cells[len(cells)-1-i])
		}
	}
}

// P2.2: one way only, again and again, so that nothing may pile up.
func TestOneWayOnly(t *testing.T) {
	for _, first := range knownEdges(t) {
		up, down, double, square := first, first, first, first
		for range 70 {
			up, down = plus(up, first), minus(down, first)
			double, square = plus(double, double), times(square, square)
		}
		for what, x := range map[string]known{"up": up, "down": down, "double": double, "square": square} {
			is(t, what, x.num, x.big)
		}
	}
}

// exponents are of no bytes, of some, of 32 and of more.
func exponents() [][]byte {
	out := [][]byte{nil, {}, {0}, {1}, {2}, {15}, {16}, {17}, {255}, {0, 1}, {1, 2, 3, 4, 5}, make([]byte, 32)}
	for _, length := range []int{7, 8, 9, 31, 32} {
		out = append(out, bytes.Repeat([]byte{255}, length), append(make([]byte, length-1), 128), append(make([]byte, length-1), 1))
	}
	for _, n := range edges() {
		out = append(out, lowestFirst(n))
	}
	return out
}

// P2.2: powers of edges and of what was reckoned.
func TestPower(t *testing.T) {
	for _, x := range append(knownEdges(t), reckoned(t)...) {
		for _, exp := range exponents() {
			want := new(big.Int).Exp(x.big, highestFirst(exp), prime())
			if highestFirst(exp).Sign() == 0 {
				want = number(1)
			}
			is(t, "Power", x.num.Power(exp), want)
		}
	}
	is(t, "of 0, none", field.Of(0).Power(nil), number(1))
	is(t, "of 0, noughts", field.Of(0).Power(make([]byte, 40)), number(1))
	is(t, "of 0, one", field.Of(0).Power([]byte{1}), number(0))
	is(t, "of p as a sum, none", field.Of(-1).Plus(field.Of(1)).Power(nil), number(1))
}

// P2.2: of an exponent's bytes no more than the first 32 count.
func TestPowerOfMoreBytes(t *testing.T) {
	for _, exp := range [][]byte{make([]byte, 32), bytes.Repeat([]byte{255}, 32), lowestFirst(below(prime(), 2)), lowestFirst(number(5))} {
		want := new(big.Int).Exp(number(3), highestFirst(exp), prime())
		for _, more := range [][]byte{{0}, {1}, {255}, bytes.Repeat([]byte{7}, 100)} {
			is(t, "Power", field.Of(3).Power(slices.Concat(exp, more)), want)
		}
	}
}

// P2.2: the inverse of 0, however it came, is 0; of others it is the power of p - 2, and 1 by them.
func TestInverse(t *testing.T) {
	for _, x := range append(knownEdges(t), reckoned(t)...) {
		inverse := x.num.Inverse()
		if x.big.Sign() == 0 {
			is(t, "of 0", inverse, number(0))
			continue
		}
		is(t, "Inverse", inverse, new(big.Int).ModInverse(x.big, prime()))
		is(t, "by itself", inverse.Times(x.num), number(1))
		is(t, "of the inverse", inverse.Inverse(), x.big)
		if !field.Same(inverse, x.num.Power(lowestFirst(below(prime(), 2)))) {
			t.Errorf("the inverse of %x is not its power of p - 2", x.big)
		}
	}
}

// P2.2: residues that came another way are the same, their neighbours are not.
func TestSame(t *testing.T) {
	for _, x := range knownEdges(t) {
		one, most := field.Of(1), field.Of(-1)
		for what, y := range map[string]field.Num{
			"itself":           x.num,
			"a sum":            x.num.Plus(most).Plus(one),
			"a difference":     x.num.Minus(most).Minus(one),
			"0 taken away":     x.num.Minus(field.Of(0)),
			"itself taken off": x.num.Minus(x.num).Plus(x.num),
			"a product":        x.num.Times(most).Times(most),
			"twice opposite":   field.Of(0).Minus(field.Of(0).Minus(x.num)),
		} {
			if !field.Same(x.num, y) || !field.Same(y, x.num) {
				t.Errorf("%s of %x is not the same", what, x.big)
			}
			if field.Same(x.num, y.Plus(one)) || field.Same(y.Minus(one), x.num) {
				t.Errorf("%s of %x is the same as its neighbour", what, x.big)
			}
		}
	}
}

// P2.1, P2.2: each bit counts.
func TestSameOfEachBit(t *testing.T) {
	for bit := range uint(255) {
		x := parsed(t, twoTo(bit)).num
		if field.Same(x, field.Of(0)) || !field.Same(x, field.Of(2).Power([]byte{byte(bit)})) {
			t.Errorf("bit %d", bit)
		}
	}
}

// rightRoot tells where a root is not what the model says of u by v.
func rightRoot(t *testing.T, u, v known) {
	t.Helper()
	r, ok := field.Root(u.num, v.num)
	var want *big.Int
	if v.big.Sign() != 0 {
		by := modulo(new(big.Int).Mul(u.big, new(big.Int).ModInverse(v.big, prime())))
		want = new(big.Int).ModSqrt(by, prime())
	} else if u.big.Sign() == 0 {
		want = number(0)
	}
	if want == nil {
		if ok || r != (field.Num{}) {
			t.Errorf("Root of %x by %x: %x, %v, and there is none", u.big, v.big, r.Form(), ok)
		}
		return
	}
	if want.Bit(0) == 1 {
		want = new(big.Int).Sub(prime(), want)
	}
	is(t, "Root", r, want)
	if !ok || !field.Same(r.Times(r).Times(v.num), u.num) || r.Form()[0]%2 == 1 {
		t.Errorf("Root of %x by %x: %x, %v", u.big, v.big, r.Form(), ok)
	}
}

// P2.3: all edges by all, 0 among them.
func TestRoot(t *testing.T) {
	all := knownEdges(t)
	for _, u := range all {
		for _, v := range all {
			rightRoot(t, u, v)
		}
	}
}

// P2.3: what came of sums, differences and products, as squares and as it is.
func TestRootOfReckoned(t *testing.T) {
	all := reckoned(t)
	for i, u := range all {
		v := all[(i*7+3)%len(all)]
		for _, w := range []known{u, times(u, u), times(times(u, u), v), plus(u, u)} {
			rightRoot(t, w, v)
			rightRoot(t, w, plus(v, parsed(t, number(1))))
			rightRoot(t, v, w)
		}
	}
}

// P2.3: the document's own examples, and 0 and none.
func TestRootExamples(t *testing.T) {
	zero, one, two, four := field.Of(0), field.Of(1), field.Of(2), field.Of(4)
	nought := field.Of(-1).Plus(one)
	for _, c := range []struct {
		what string
		u, v field.Num
		root int64
		ok   bool
	}{
		{"4, 1", four, one, 2, true},
		{"2, 1", two, one, 0, false},
		{"0, 1", zero, one, 0, true},
		{"p as a sum, 1", nought, one, 0, true},
		{"1, 0", one, zero, 0, false},
		{"4, p as a sum", four, nought, 0, false},
		{"2, 0", two, zero, 0, false},
		{"0, 0", zero, zero, 0, true},
		{"p as a sum, twice", nought, nought, 0, true},
		{"16, 4", field.Of(16), four, 2, true},
		{"8, 2", field.Of(8), two, 2, true},
	} {
		r, ok := field.Root(c.u, c.v)
		is(t, c.what, r, number(c.root))
		if ok != c.ok {
			t.Errorf("Root(%s): %v", c.what, ok)
		}
	}
	for _, bad := range []field.Num{two, field.Of(8), field.Of(-2), two.Inverse()} {
		if r, ok := field.Root(bad, one); ok || r != (field.Num{}) {
			t.Errorf("Root of %x, 1: %x, %v", bad.Form(), r.Form(), ok)
		}
	}
}

// P2.4: sums and products go together.
func TestField(t *testing.T) {
	same := func(what string, x, y field.Num) {
		t.Helper()
		if !field.Same(x, y) || !bytes.Equal(x.Form(), y.Form()) {
			t.Errorf("%s: %x, %x", what, x.Form(), y.Form())
		}
	}
	zero, one := field.Of(0), field.Of(1)
	all := append(knownEdges(t)[:12], reckoned(t)...)
	for _, kx := range all {
		x := kx.num
		same("x + 0", x.Plus(zero), x)
		same("x 1", x.Times(one), x)
		same("x - x", x.Minus(x), zero)
		if kx.big.Sign() != 0 {
			same("x by x", x.Times(x.Inverse()), one)
		}
		for _, ky := range all {
			y := ky.num
			same("x + y", x.Plus(y), y.Plus(x))
			same("x y", x.Times(y), y.Times(x))
			same("x - y + y", x.Minus(y).Plus(y), x)
			z := x.Times(y).Minus(one)
			same("(x + y) + z", x.Plus(y).Plus(z), x.Plus(y.Plus(z)))
			same("(x y) z", x.Times(y).Times(z), x.Times(y.Times(z)))
			same("x (y + z)", x.Times(y.Plus(z)), x.Times(y).Plus(x.Times(z)))
		}
	}
}

// R4: what is handed in is not changed, its spare room neither.
func TestHandedInIsNotChanged(t *testing.T) {
	for _, length := range []int{0, 1, 31, 32, 33, 40} {
		room := bytes.Repeat([]byte{0x5a}, 64)
		b := room[:length]
		field.Parse(b)
		field.Of(3).Power(b)
		if !bytes.Equal(room, bytes.Repeat([]byte{0x5a}, 64)) {
			t.Errorf("of %d bytes: %x", length, room)
		}
	}
}

// R4: what is handed in is not kept; what is answered is new memory.
func TestHandedInIsNotKept(t *testing.T) {
	b := field.Of(-7).Form()
	x, e := field.Parse(b)
	power := field.Of(2).Power(b)
	want := power.Form()
	clear(b)
	is(t, "Parse", x, below(prime(), 7))
	if e != api.OK || !bytes.Equal(power.Form(), want) {
		t.Errorf("%v, %x, not %x", e, power.Form(), want)
	}
	first, second := x.Form(), x.Form()
	for i := range first[:cap(first)] {
		first[:cap(first)][i] ^= 255
	}
	if !bytes.Equal(second, lowestFirst(below(prime(), 7))) {
		t.Errorf("a form told ahead: %x", second)
	}
	is(t, "a form told behind", x, below(prime(), 7))
}

// R4, R5: residues that are reckoned with stay what they were, and answer the same again.
func TestOperandsStay(t *testing.T) {
	for _, x := range reckoned(t) {
		y := x.num.Plus(field.Of(1))
		form, was := x.num.Form(), x.num
		for range 2 {
			x.num.Plus(y)
			x.num.Minus(y)
			x.num.Times(y)
			x.num.Power([]byte{3})
			x.num.Inverse()
			field.Root(x.num, y)
			field.Same(x.num, y)
			if x.num != was || !bytes.Equal(x.num.Form(), form) {
				t.Fatalf("%x became %x", form, x.num.Form())
			}
		}
	}
}
