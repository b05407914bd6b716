package seal_test

import (
	"bytes"
	"encoding/hex"
	"math/big"
	"slices"
	"testing"

	"pantile/api"
	"pantile/digest"
	"pantile/point"
	"pantile/seal"
)

// model is a secret's number, salt and public key, straight by the chapter's words.
type model struct {
	number *big.Int
	salt   []byte
	public []byte
}

// modelOf is a secret's.
func modelOf(secret []byte) model {
	whole := digest.Sum512(secret)
	number := numberOf(whole[:32])
	for _, bit := range []int{0, 1, 2, 255} {
		number.SetBit(number, bit, 0)
	}
	number.SetBit(number, 254, 1)
	return model{number, whole[32:], bases(number).Bytes()}
}

// seal is the model's seal of a message.
func (m model) seal(msg []byte) []byte {
	return sealed(m.number, left(digest.Sum512(m.salt, msg)), m.public, msg)
}

// sealed is what a number and r make for any public key: R, and k times the number, and r.
func sealed(number, r *big.Int, public, msg []byte) []byte {
	first := bases(r).Bytes()
	second := left(digest.Sum512(first, public, msg))
	second.Mul(second, number).Add(second, r).Mod(second, order())
	return slices.Concat(first, bytesOf(second))
}

// order is L.
func order() *big.Int {
	n, _ := new(big.Int).SetString("27742317777372353535851937790883648493", 10)
	return n.SetBit(n, 252, 1)
}

// left is what is left of bytes' number modulo L.
func left(b []byte) *big.Int { return new(big.Int).Mod(numberOf(b), order()) }

// numberOf is the number of bytes, the lowest first.
func numberOf(b []byte) *big.Int {
	b = bytes.Clone(b)
	slices.Reverse(b)
	return new(big.Int).SetBytes(b)
}

// bytesOf are a number's 32 bytes, the lowest first.
func bytesOf(n *big.Int) []byte {
	b := n.FillBytes(make([]byte, 32))
	slices.Reverse(b)
	return b
}

// bases are so many bases.
func bases(n *big.Int) point.Point { return point.Base().Times(bytesOf(n)) }

// smallOrder are the eight points of which eight are nought: each one is as many of the one at 1 as its place.
func smallOrder() (out []point.Point) {
	for y := byte(2); ; y++ {
		p, e := point.Parse(append([]byte{y}, make([]byte, 31)...))
		if e != api.OK {
			continue
		}
		if p = p.Times(bytesOf(order())); point.Same(p.Times([]byte{4}), point.Nought()) {
			continue
		}
		for k := range byte(8) {
			out = append(out, p.Times([]byte{k}))
		}
		return out
	}
}

// pattern are so many bytes that go on from one by steps.
func pattern(many, step, from int) []byte {
	out := make([]byte, many)
	for i := range out {
		out[i] = byte(from + i*step)
	}
	return out
}

// secrets are noughts, ones, and others.
func secrets() [][]byte {
	out := [][]byte{make([]byte, 32), bytes.Repeat([]byte{255}, 32)}
	for from := range 24 {
		out = append(out, pattern(32, 7, from*9))
	}
	return out
}

// key is a secret's key, which must be one.
func key(t *testing.T, secret []byte) *seal.Key {
	t.Helper()
	k, e := seal.New(secret)
	if e != api.OK || k == nil {
		t.Fatalf("New of %x: %v", secret, e)
	}
	return k
}

// unhex are the bytes of digits of sixteen.
func unhex(t *testing.T, digits string) []byte {
	t.Helper()
	b, err := hex.DecodeString(digits)
	if err != nil {
		t.Fatal(err)
	}
	return b
}

// are tells where bytes are not those that were wanted.
func are(t *testing.T, what string, got, want []byte) {
	t.Helper()
	if !bytes.Equal(got, want) {
		t.Errorf("%s: %x, not %x", what, got, want)
	}
}

// answers tells where a check answers something else.
func answers(t *testing.T, what string, want api.Errno, public, msg, sealed []byte) {
	t.Helper()
	if got := seal.Check(public, msg, sealed); got != want {
		t.Errorf("%s: Check of %x, %x, %x: %v, not %v", what, public, msg, sealed, got, want)
	}
}
