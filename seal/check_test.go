package seal_test

import (
	"bytes"
	"math/big"
	"slices"
	"testing"

	"pantile/api"
	"pantile/digest"
	"pantile/point"
	"pantile/seal"
)

// P4.3: what is sealed is checked.
func TestSealedIsChecked(t *testing.T) {
	for i, secret := range secrets() {
		k := key(t, secret)
		for _, many := range []int{0, 1, 2, 63, 64, 65, 200, 4000} {
			msg := pattern(many, i+3, i)
			answers(t, "sealed", api.OK, k.Public(), msg, k.Seal(msg))
		}
	}
}

// P4.2: a seal of which a bit is another one, in either half.
func TestOtherBitsOfSeal(t *testing.T) {
	k, msg := key(t, pattern(32, 3, 8)), []byte("a leaf")
	right := k.Seal(msg)
	for bit := range 512 {
		wrong := bytes.Clone(right)
		wrong[bit/8] ^= 1 << (bit % 8)
		answers(t, "another bit", api.ErrSign, k.Public(), msg, wrong)
	}
	answers(t, "right", api.OK, k.Public(), msg, right)
}

// P4.2: halves that are exchanged, both the same, another seal's, noughts or ones.
func TestOtherHalves(t *testing.T) {
	k, msg := key(t, pattern(32, 3, 8)), []byte("a leaf")
	right, other := k.Seal(msg), k.Seal([]byte("another"))
	first, second := right[:32], right[32:]
	noughts, ones := make([]byte, 32), bytes.Repeat([]byte{255}, 32)
	for what, halves := range map[string][2][]byte{
		"exchanged":        {second, first},
		"twice the first":  {first, first},
		"twice the second": {second, second},
		"another's first":  {other[:32], second},
		"another's second": {first, other[32:]},
		"another's":        {other[:32], other[32:]},
		"noughts first":    {noughts, second},
		"noughts second":   {first, noughts},
		"noughts":          {noughts, noughts},
		"ones first":       {ones, second},
		"ones second":      {first, ones},
		"ones":             {ones, ones},
	} {
		answers(t, what, api.ErrSign, k.Public(), msg, slices.Concat(halves[0], halves[1]))
	}
}

// P4.2: another message: of another bit, of a byte more or less, of none.
func TestOtherMessages(t *testing.T) {
	k, msg := key(t, pattern(32, 3, 9)), pattern(70, 13, 2)
	right := k.Seal(msg)
	for bit := range len(msg) * 8 {
		other := bytes.Clone(msg)
		other[bit/8] ^= 1 << (bit % 8)
		answers(t, "another bit", api.ErrSign, k.Public(), other, right)
	}
	for length := range len(msg) {
		answers(t, "fewer bytes", api.ErrSign, k.Public(), msg[:length], right)
	}
	answers(t, "a byte more", api.ErrSign, k.Public(), append(bytes.Clone(msg), 0), right)
	answers(t, "a byte ahead", api.ErrSign, k.Public(), append([]byte{0}, msg...), right)
	answers(t, "nil", api.ErrSign, k.Public(), nil, right)
	answers(t, "of none", api.ErrSign, k.Public(), []byte{0}, k.Seal(nil))
	answers(t, "the message as seal", api.ErrSign, k.Public(), right, msg[:64])
}

// P4.2: another public key: where it is a point's the seal is wrong, where it is none's it is no key.
func TestOtherPublicKeys(t *testing.T) {
	k, msg := key(t, pattern(32, 3, 10)), []byte("a leaf")
	right, told := k.Seal(msg), map[api.Errno]int{}
	for bit := range 256 {
		other := k.Public()
		other[bit/8] ^= 1 << (bit % 8)
		want := api.ErrSign
		if _, e := point.Parse(other); e != api.OK {
			want = api.ErrKey
		}
		answers(t, "another bit", want, other, msg, right)
		told[want]++
	}
	if told[api.ErrKey] < 50 || told[api.ErrSign] < 50 {
		t.Errorf("%v: these tell little", told)
	}
	for _, secret := range secrets() {
		answers(t, "another's", api.ErrSign, key(t, secret).Public(), msg, right)
	}
	for _, p := range smallOrder() {
		answers(t, "of small order", api.ErrSign, p.Bytes(), msg, right)
	}
}

// P4.2: seals of other lengths than 64.
func TestSealsOfOtherLengths(t *testing.T) {
	k, msg := key(t, pattern(32, 3, 11)), []byte("a leaf")
	right := k.Seal(msg)
	long := slices.Concat(right, make([]byte, 80))
	for length := range long {
		want := api.ErrSign
		if length == 64 {
			want = api.OK
		}
		answers(t, "of this length", want, k.Public(), msg, long[:length])
	}
	answers(t, "nil", api.ErrSign, k.Public(), msg, nil)
	answers(t, "a byte ahead", api.ErrSign, k.Public(), msg, append([]byte{0}, right...))
	answers(t, "twice", api.ErrSign, k.Public(), msg, slices.Concat(right, right))
	answers(t, "a nought within", api.ErrSign, k.Public(), msg, slices.Concat(right[:32], []byte{0}, right[32:]))
}

// noKeys are bytes that are no point's: of other lengths, of y from p on, of y with no x, of x 0 with the highest bit 1.
func noKeys(public []byte) [][]byte {
	out := [][]byte{nil, {}, {1}, public[:31], public[1:], append(bytes.Clone(public), 0), append([]byte{0}, public...), slices.Concat(public, public)}
	prime := new(big.Int).Sub(new(big.Int).Lsh(big.NewInt(1), 255), big.NewInt(19))
	for more := range int64(19) {
		beyond := bytesOf(new(big.Int).Add(prime, big.NewInt(more)))
		odd := bytes.Clone(beyond)
		odd[31] |= 128
		out = append(out, beyond, odd)
	}
	minus := bytesOf(new(big.Int).Sub(prime, big.NewInt(1)))
	minus[31] |= 128
	return append(out, minus, append([]byte{1}, append(make([]byte, 30), 128)...), append([]byte{2}, make([]byte, 31)...), bytes.Repeat([]byte{255}, 32))
}

// P4.2: a public key that is no point's bytes is named ahead of a seal that is wrong too.
func TestNoKeyIsNamedFirst(t *testing.T) {
	k, msg := key(t, pattern(32, 3, 12)), []byte("a leaf")
	right := k.Seal(msg)
	beyond := slices.Concat(right[:32], bytesOf(order()))
	none := slices.Concat(append([]byte{2}, make([]byte, 31)...), right[32:])
	for _, public := range noKeys(k.Public()) {
		for _, wrong := range [][]byte{nil, {}, right, right[:63], append(bytes.Clone(right), 0), beyond, none, make([]byte, 64), bytes.Repeat([]byte{255}, 64)} {
			answers(t, "no key", api.ErrKey, public, msg, wrong)
			answers(t, "no key, no message", api.ErrKey, public, nil, wrong)
		}
	}
	answers(t, "nothing", api.ErrKey, nil, nil, nil)
}

// P4.2: beside a public key of nought any number's bases and the number are a seal, of any message: so of these halves the second alone tells.
func TestSecondHalves(t *testing.T) {
	nought := point.Nought().Bytes()
	check := func(what string, n *big.Int) {
		t.Helper()
		want := api.ErrSign
		if n.Cmp(order()) < 0 {
			want = api.OK
		}
		answers(t, what, want, nought, []byte("any"), slices.Concat(bases(n).Bytes(), bytesOf(n)))
	}
	most := new(big.Int).Sub(new(big.Int).Lsh(big.NewInt(1), 256), big.NewInt(1))
	check("the greatest", most)
	for times := int64(0); times < 16; times++ {
		for _, more := range []int64{-1, 0, 1, 12345} {
			n := new(big.Int).Mul(order(), big.NewInt(times))
			if n.Add(n, big.NewInt(more)); n.Sign() >= 0 && n.Cmp(most) <= 0 {
				check("by L", n)
			}
		}
	}
	for bit := range uint(256) {
		n := new(big.Int).Lsh(big.NewInt(1), bit)
		check("a bit", n)
		check("a bit less than L", new(big.Int).SetBit(order(), int(bit), 1-order().Bit(int(bit))))
	}
}

// P4.3: no seal is checked with L more in its second half, nor with more of them.
func TestLMore(t *testing.T) {
	for i, secret := range secrets() {
		k, msg := key(t, secret), pattern(i*10, 3, i)
		right := k.Seal(msg)
		n := numberOf(right[32:])
		if n.Cmp(order()) >= 0 {
			t.Errorf("%x: the second half is %x", secret, n)
		}
		for times := 1; times < 16; times++ {
			n.Add(n, order())
			if n.BitLen() > 256 {
				break
			}
			answers(t, "L more", api.ErrSign, k.Public(), msg, slices.Concat(right[:32], bytesOf(n)))
		}
	}
}

// P4.2: a first half must be the bytes of its point: others of which one could read the same are none.
func TestFirstHalfByItsBytes(t *testing.T) {
	nought, second := point.Nought().Bytes(), make([]byte, 32)
	answers(t, "nought", api.OK, nought, nil, slices.Concat(nought, second))
	odd, beyond := bytes.Clone(nought), append([]byte{0xee}, bytes.Repeat([]byte{255}, 31)...)
	odd[31] = 128
	answers(t, "odd nought", api.ErrSign, nought, nil, slices.Concat(odd, second))
	answers(t, "p and 1, odd", api.ErrSign, nought, nil, slices.Concat(beyond, second))
	beyond[31] = 127
	answers(t, "p and 1", api.ErrSign, nought, nil, slices.Concat(beyond, second))
	base := point.Base().Bytes()
	answers(t, "the base", api.OK, nought, nil, slices.Concat(base, []byte{1}, second[1:]))
	for bit := range 256 {
		other := slices.Concat(base, []byte{1}, second[1:])
		other[bit/8] ^= 1 << (bit % 8)
		answers(t, "of another bit", api.ErrSign, nought, nil, other)
	}
}

// P4.2: beside a public key of small order, the first half must be the very point that k says, not one of its neighbours of small order.
func TestPublicKeysOfSmallOrder(t *testing.T) {
	small, n, told := smallOrder(), big.NewInt(77), map[api.Errno]int{}
	for at, p := range small {
		public, msg := p.Bytes(), []byte{byte(at)}
		for _, neighbour := range small {
			first := bases(n).Plus(neighbour).Bytes()
			k := left(digest.Sum512(first, public, msg))
			of := k.Mul(k, big.NewInt(int64(at))).Mod(k, big.NewInt(8)).Int64()
			want := api.ErrSign
			if bytes.Equal(first, bases(n).Minus(small[of]).Bytes()) {
				want = api.OK
			}
			answers(t, "of small order", want, public, msg, slices.Concat(first, bytesOf(n)))
			told[want]++
		}
	}
	if told[api.OK] < 3 || told[api.ErrSign] < 30 {
		t.Errorf("%v: these tell little", told)
	}
}

// P4.2: beside a public key that is a key's and a point of small order, a seal is right only where k takes that point away.
func TestMixedPublicKeys(t *testing.T) {
	m := modelOf(pattern(32, 3, 13))
	for at, p := range smallOrder() {
		public, told := bases(m.number).Plus(p).Bytes(), map[api.Errno]int{}
		for many := range 24 {
			msg := pattern(many, 1, at)
			made := sealed(m.number, big.NewInt(int64(1000+many)), public, msg)
			k := left(digest.Sum512(made[:32], public, msg))
			want := api.ErrSign
			if k.Mul(k, big.NewInt(int64(at))).Mod(k, big.NewInt(8)).Sign() == 0 {
				want = api.OK
			}
			answers(t, "mixed", want, public, msg, made)
			told[want]++
		}
		if told[api.OK] == 0 || at > 0 && told[api.ErrSign] == 0 {
			t.Errorf("%d: %v: these tell little", at, told)
		}
	}
}

// P4.2: any r makes a seal, not only the salt's.
func TestAnyFirstHalf(t *testing.T) {
	m, msg := modelOf(pattern(32, 3, 14)), []byte("a leaf")
	for _, r := range []*big.Int{big.NewInt(0), big.NewInt(1), new(big.Int).Sub(order(), big.NewInt(1)), left(pattern(64, 1, 1))} {
		answers(t, "any r", api.OK, m.public, msg, sealed(m.number, r, m.public, msg))
		answers(t, "another number", api.ErrSign, m.public, msg, sealed(new(big.Int).Add(m.number, big.NewInt(1)), r, m.public, msg))
	}
}

// R5: what a check answers hangs on its arguments alone.
func TestCheckedAgain(t *testing.T) {
	k, msg := key(t, pattern(32, 3, 15)), []byte("a leaf")
	right, wrong := k.Seal(msg), k.Seal([]byte("another"))
	for range 5 {
		answers(t, "wrong", api.ErrSign, k.Public(), msg, wrong)
		answers(t, "no key", api.ErrKey, nil, msg, right)
		answers(t, "right", api.OK, k.Public(), msg, right)
	}
	if e := seal.Check(k.Public(), msg, append(make([]byte, 0, 500), right...)); e != api.OK {
		t.Errorf("with room behind: %v", e)
	}
}
