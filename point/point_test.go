package point_test

import (
	"bytes"
	"encoding/hex"
	"math/big"
	"math/rand"
	"slices"
	"testing"

	"pantile/api"
	"pantile/point"
)

// P3.1: nought and the base, by their bytes.
func TestNoughtAndBase(t *testing.T) {
	are(t, "Nought", point.Nought().Bytes(), append([]byte{1}, make([]byte, 31)...))
	are(t, "Base", point.Base().Bytes(), append([]byte{0x58}, bytes.Repeat([]byte{0x66}, 31)...))
	is(t, "Base", point.Base(), basePair())
	if basePair().x.Bit(0) != 0 {
		t.Error("the base's x is odd")
	}
	// Bytes tell of x no more than a bit: a sum tells all of it.
	is(t, "twice the base", point.Base().Plus(point.Base()), basePair().sum(basePair()))
	is(t, "nought and the base", point.Nought().Plus(point.Base()), basePair())
}

// P3.1: points are told again as they came.
func TestParseAndBytes(t *testing.T) {
	for _, p := range points(t) {
		is(t, "Bytes", p.point, p.pair)
		again, e := point.Parse(p.point.Bytes())
		if e != api.OK || !point.Same(again, p.point) {
			t.Errorf("Parse of %x: %v", p.pair.bytes(), e)
		}
		if got := again.Bytes(); len(got) != 32 {
			t.Errorf("%d bytes", len(got))
		}
	}
	for _, p := range pairs() {
		k := parsed(t, p)
		is(t, "x of Parse", k.point.Plus(point.Base()), p.sum(basePair()))
	}
}

// judged tells where Parse takes bytes which the model does not, or the other way round.
func judged(t *testing.T, b []byte) {
	t.Helper()
	p, e := point.Parse(b)
	want, ok := pairOf(b)
	if ok {
		is(t, "Parse", p, want)
	}
	if ok != (e == api.OK) || !ok && (e != api.ErrBytes || p != (point.Point{})) {
		t.Errorf("Parse of %x: %v, and the model says %v", b, e, ok)
	}
}

// refused tells where bytes are taken, or refused otherwise than the document says.
func refused(t *testing.T, what string, b []byte) {
	t.Helper()
	if p, e := point.Parse(b); e != api.ErrBytes || p != (point.Point{}) {
		t.Errorf("%s: Parse of %x: %v", what, b, e)
	}
}

// both are the bytes of y, with the highest bit 0 and 1.
func both(y *big.Int) [][]byte {
	return [][]byte{lowestFirst(y), lowestFirst(new(big.Int).SetBit(y, 255, 1))}
}

// P3.1: bytes of other lengths than 32.
func TestParseOtherLengths(t *testing.T) {
	refused(t, "nil", nil)
	for length := range 100 {
		if length != 32 {
			refused(t, "noughts", make([]byte, length))
			refused(t, "nought's", append([]byte{1}, make([]byte, length)...)[:length])
		}
	}
	refused(t, "a byte less", point.Base().Bytes()[:31])
	refused(t, "a byte more", append(point.Base().Bytes(), 0))
	refused(t, "twice", append(point.Base().Bytes(), point.Base().Bytes()...))
}

// P3.1: y that is p or more, with either highest bit.
func TestParseBeyond(t *testing.T) {
	for many := range int64(19) {
		for _, b := range both(more(prime(), many)) {
			refused(t, "p and more", b)
		}
	}
	refused(t, "all ones", bytes.Repeat([]byte{255}, 32))
}

// P3.1: x of 0, which is so of y 1 and -1, with the highest bit 0 and 1.
func TestParseNoX(t *testing.T) {
	for what, y := range map[string]*big.Int{"1": number(1), "-1": more(prime(), -1)} {
		b := both(y)
		p, e := point.Parse(b[0])
		if e != api.OK {
			t.Errorf("y %s: %v", what, e)
		}
		is(t, what, p, pair{number(0), y})
		refused(t, "odd 0, y "+what, b[1])
	}
}

// P3.1: y with which an x goes and y with which none goes, small ones, great ones and others.
func TestParseEachY(t *testing.T) {
	chance := rand.New(rand.NewSource(1))
	taken := 0
	for many := range int64(200) {
		for _, y := range []*big.Int{number(many), more(prime(), -1-many), new(big.Int).Rand(chance, prime())} {
			for _, b := range both(y) {
				judged(t, b)
			}
			if _, ok := pairOf(lowestFirst(y)); ok {
				taken++
			}
		}
	}
	if taken < 100 || taken > 500 {
		t.Errorf("%d of 600 have an x: these tell little", taken)
	}
	refused(t, "2", append([]byte{2}, make([]byte, 31)...))
}

// inTwos tells where a sum, a difference or Same is not right for two.
func inTwos(t *testing.T, p, q known) {
	t.Helper()
	is(t, "Plus", p.point.Plus(q.point), p.pair.sum(q.pair))
	is(t, "Minus", p.point.Minus(q.point), p.pair.sum(q.pair.opposite()))
	if point.Same(p.point, q.point) != p.pair.same(q.pair) {
		t.Errorf("Same of %x and %x", p.pair.bytes(), q.pair.bytes())
	}
}

// P3.2: all by all: with themselves, with their negatives, with nought, with those of small order.
func TestSumsAndDifferences(t *testing.T) {
	all := points(t)
	for _, p := range all {
		for _, q := range all {
			inTwos(t, p, q)
		}
	}
}

// P3.2: a point with itself, with its negative and with nought, in so many words.
func TestItselfNegativeNought(t *testing.T) {
	nought := point.Nought()
	for _, p := range points(t) {
		negative := nought.Minus(p.point)
		is(t, "negative", negative, p.pair.opposite())
		is(t, "with itself", p.point.Plus(p.point), p.pair.sum(p.pair))
		for what, sum := range map[string]point.Point{
			"without itself":    p.point.Minus(p.point),
			"with its negative": p.point.Plus(negative),
			"the other way":     negative.Plus(p.point),
		} {
			if !point.Same(sum, nought) || !bytes.Equal(sum.Bytes(), nought.Bytes()) {
				t.Errorf("%x %s: %x", p.pair.bytes(), what, sum.Bytes())
			}
		}
		for what, sum := range map[string]point.Point{
			"with nought":             p.point.Plus(nought),
			"nought with it":          nought.Plus(p.point),
			"without nought":          p.point.Minus(nought),
			"without its negative":    p.point.Plus(p.point).Minus(p.point),
			"negative of itself":      nought.Minus(negative),
			"with another and off it": p.point.Minus(point.Base()).Plus(point.Base()),
		} {
			if !point.Same(sum, p.point) {
				t.Errorf("%x %s: %x", p.pair.bytes(), what, sum.Bytes())
			}
			is(t, what, sum, p.pair)
		}
	}
}

// P3.2: points with one x and other y, and with one y and other x, are not the same.
func TestSameLooksAtBoth(t *testing.T) {
	half := parsed(t, pair{number(0), more(prime(), -1)})
	if point.Same(half.point, point.Nought()) {
		t.Error("0, 1 and 0, -1")
	}
	for _, p := range points(t) {
		turned := p.point.Plus(half.point)
		is(t, "-x, -y", turned, pair{negative(p.pair.x), negative(p.pair.y)})
		for what, q := range map[string]known{
			"-x, -y": {turned, p.pair.sum(half.pair)},
			"x, -y":  {point.Nought().Minus(turned), pair{p.pair.x, negative(p.pair.y)}},
			"-x, y":  {point.Nought().Minus(p.point), p.pair.opposite()},
		} {
			if want := p.pair.same(q.pair); point.Same(p.point, q.point) != want || point.Same(q.point, p.point) != want {
				t.Errorf("%s of %x: not %v", what, p.pair.bytes(), want)
			}
		}
	}
}

// P3.2: sums on and on.
func TestSumsOnAndOn(t *testing.T) {
	chance := rand.New(rand.NewSource(2))
	all := points(t)
	for range 300 {
		p, q := all[chance.Intn(len(all))], all[chance.Intn(len(all))]
		next := known{p.point.Plus(q.point), p.pair.sum(q.pair)}
		if chance.Intn(2) == 0 {
			next = known{p.point.Minus(q.point), p.pair.sum(q.pair.opposite())}
		}
		is(t, "on and on", next.point, next.pair)
		all[chance.Intn(len(all))] = next
	}
}

// P3.2: edges of numbers, of the base and of others.
func TestTimes(t *testing.T) {
	few := []known{{point.Base(), basePair()}, parsed(t, pairs()[1]), parsed(t, pairs()[12]), {point.Nought(), pair{number(0), number(1)}}}
	for _, p := range few {
		for _, k := range numbers() {
			is(t, "Times", p.point.Times(lowestFirst(k)), p.pair.many(k))
		}
	}
	three := lowestFirst(number(3))
	for _, p := range points(t) {
		is(t, "one", p.point.Times([]byte{1}), p.pair)
		is(t, "three", p.point.Times(three), p.pair.sum(p.pair).sum(p.pair))
	}
}

// P3.2: numbers of no bytes, of noughts alone, of fewer bytes than 32.
func TestTimesOfFewBytes(t *testing.T) {
	for _, p := range points(t) {
		for _, k := range [][]byte{nil, {}, {0}, make([]byte, 31), make([]byte, 32), make([]byte, 70)} {
			if got := p.point.Times(k); !point.Same(got, point.Nought()) {
				t.Errorf("%x, %d noughts: %x", p.pair.bytes(), len(k), got.Bytes())
			}
		}
	}
	b, sum := point.Base(), point.Nought()
	for k := range 300 {
		for _, length := range []int{2, 3, 9, 31, 32} {
			if !point.Same(b.Times(sized(number(int64(k)), length)), sum) {
				t.Errorf("%d in %d bytes", k, length)
			}
		}
		sum = sum.Plus(b)
	}
	for length := range 33 {
		k := bytes.Repeat([]byte{0xb5}, length)
		is(t, "of few bytes", b.Times(k), basePair().many(highestFirst(k)))
	}
}

// P3.2: of more than 32 bytes the first 32 count.
func TestTimesOfMoreBytes(t *testing.T) {
	b := point.Base()
	for _, k := range []*big.Int{number(0), number(5), order(), more(twoTo(256), -1)} {
		want := basePair().many(k)
		for _, beyond := range [][]byte{{0}, {1}, {255}, bytes.Repeat([]byte{7}, 32), bytes.Repeat([]byte{255}, 100)} {
			is(t, "Times", b.Times(slices.Concat(lowestFirst(k), beyond)), want)
		}
	}
}

// P3.2: the public keys of RFC 8032's first tests, by the numbers of their secrets.
func TestKnownMultiples(t *testing.T) {
	for number, public := range map[string]string{
		"307c83864f2833cb427a2ef1c00a013cfdff2768d980c0a3a520f006904de94f": "d75a980182b10ab7d54bfed3c964073a0ee172f3daa62325af021a68f707511a",
		"68bd9ed75882d52815a97585caf4790a7f6c6b3b7f821c5e259a24b02e502e51": "3d4017c3e843895a92b70aa74d1b7ebc9c982ccf2ec4968cc0cd55f12af4660c",
	} {
		k, _ := hex.DecodeString(number)
		if got := hex.EncodeToString(point.Base().Times(k).Bytes()); got != public {
			t.Errorf("%s bases: %s", number, got)
		}
	}
}

// P3.2: what comes of the zero Point is not told; but each call ends, and none panics.
func TestZeroPointEnds(t *testing.T) {
	var zero point.Point
	base := point.Base()
	for _, p := range []point.Point{zero, zero.Plus(base), base.Plus(zero), zero.Minus(zero), base.Minus(zero), zero.Times(lowestFirst(order()))} {
		p.Bytes()
		p.Plus(p).Minus(base).Times(bytes.Repeat([]byte{255}, 40)).Bytes()
		point.Same(p, base)
		point.Same(base, p)
		point.Same(p, zero)
	}
}

// P3.4: points are a group.
func TestGroup(t *testing.T) {
	same := func(what string, p, q point.Point) {
		t.Helper()
		if !point.Same(p, q) || !bytes.Equal(p.Bytes(), q.Bytes()) {
			t.Errorf("%s: %x, %x", what, p.Bytes(), q.Bytes())
		}
	}
	all := points(t)
	for i, p := range all {
		q, r := all[(i*5+3)%len(all)].point, all[(i*11+7)%len(all)].point
		same("p + q", p.point.Plus(q), q.Plus(p.point))
		same("(p + q) + r", p.point.Plus(q).Plus(r), p.point.Plus(q.Plus(r)))
		same("p - (q - r)", p.point.Minus(q.Minus(r)), p.point.Minus(q).Plus(r))
		three, five := []byte{3}, []byte{5}
		same("3p + 5p", p.point.Times(three).Plus(p.point.Times(five)), p.point.Times([]byte{8}))
		same("3 of 5p", p.point.Times(five).Times(three), p.point.Times([]byte{15}))
		same("3(p + q)", p.point.Plus(q).Times(three), p.point.Times(three).Plus(q.Times(three)))
	}
}

// P3.4: L bases are nought, fewer are not, and numbers of bases go round by L.
func TestOrder(t *testing.T) {
	b, nought := point.Base(), point.Nought()
	for _, of := range []point.Point{b, b.Plus(b), b.Times([]byte{200}), nought} {
		if !point.Same(of.Times(lowestFirst(order())), nought) {
			t.Errorf("L of %x are not nought", of.Bytes())
		}
	}
	is(t, "L - 1", b.Times(lowestFirst(more(order(), -1))), basePair().opposite())
	is(t, "L + 1", b.Times(lowestFirst(more(order(), 1))), basePair())
	for i, p := range smallOrder() {
		all := parsed(t, p).point
		if !point.Same(all.Times([]byte{8}), nought) || i > 0 && point.Same(all.Times(lowestFirst(order())), nought) {
			t.Errorf("%d: of %x", i, p.bytes())
		}
	}
	for _, k := range numbers() {
		if !point.Same(b.Times(lowestFirst(k)), b.Times(point.Left(lowestFirst(k)))) {
			t.Errorf("%x bases, and what is left of it", k)
		}
	}
}

// R4: what is handed in is not changed, its spare room neither.
func TestHandedInIsNotChanged(t *testing.T) {
	for _, length := range []int{0, 1, 31, 32, 33, 63, 64, 65} {
		for _, fill := range []byte{0xd8, 0xff, 0x66} {
			room := bytes.Repeat([]byte{fill}, 100)
			b := room[:length]
			point.Parse(b)
			point.Base().Times(b)
			point.Left(b)
			point.Combine(b, b, b)
			point.Small(b)
			are(t, "handed in", room, bytes.Repeat([]byte{fill}, 100))
		}
	}
	odd := point.Nought().Minus(point.Base()).Bytes()
	was := bytes.Clone(odd)
	point.Parse(odd)
	are(t, "odd", odd, was)
}

// R4: what is handed in is not kept; what is answered is new memory.
func TestHandedInIsNotKept(t *testing.T) {
	b := point.Nought().Minus(point.Base()).Bytes()
	p, _ := point.Parse(b)
	k := lowestFirst(number(77))
	sum, rest, whole := p.Times(k), point.Left(k), point.Combine(k, k, k)
	clear(b)
	clear(k)
	is(t, "Parse", p, basePair().opposite())
	is(t, "Times", sum, basePair().opposite().many(number(77)))
	are(t, "Left", rest, lowestFirst(number(77)))
	are(t, "Combine", whole, lowestFirst(number(77*77+77)))
}

// R4: each answer is new memory, its spare room too.
func TestAnswersAreNewMemory(t *testing.T) {
	p, k := point.Base().Plus(point.Base()), bytes.Repeat([]byte{9}, 32)
	for what, answer := range map[string]func() []byte{
		"Bytes":     p.Bytes,
		"of Base":   func() []byte { return point.Base().Bytes() },
		"of Nought": func() []byte { return point.Nought().Bytes() },
		"Left":      func() []byte { return point.Left(k) },
		"Left, nil": func() []byte { return point.Left(nil) },
		"Combine":   func() []byte { return point.Combine(k, k, k) },
	} {
		first, second := answer(), answer()
		want := bytes.Clone(second)
		for i := range first[:cap(first)] {
			first[:cap(first)][i] ^= 255
		}
		are(t, what+" told ahead", second, want)
		are(t, what+" told behind", answer(), want)
	}
	are(t, "handed in", k, bytes.Repeat([]byte{9}, 32))
}

// R4, R5: points that are reckoned with stay what they were, and answer the same again.
func TestPointsStay(t *testing.T) {
	for _, p := range points(t) {
		q := p.point.Plus(point.Base())
		was, with := p.point, q
		for range 2 {
			p.point.Plus(q)
			p.point.Minus(q)
			p.point.Times([]byte{250, 1})
			point.Same(p.point, q)
			p.point.Bytes()
			is(t, "stays", p.point, p.pair)
			if p.point != was || q != with {
				t.Fatalf("%x became another", p.pair.bytes())
			}
		}
	}
	is(t, "Base", point.Base(), basePair())
	is(t, "Nought", point.Nought(), pair{number(0), number(1)})
}
