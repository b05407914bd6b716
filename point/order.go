package point

import (
	"iter"
	"math/bits"
	"slices"
)

const (
	numberSize = 32             // bytes of a number, and of a point
	longest    = 2 * numberSize // bytes of which Left takes what is left
	wordBits   = 64
)

// order is L, the lowest word first.
var order = [4]uint64{0x5812631a5cf5d3ed, 0x14def9dea2f79cd6, 0, 0x1000000000000000}

// words are a number below 2^512, the lowest word first.
type words [8]uint64

// rest is a number below 2^256, the lowest word first.
type rest [4]uint64

// Left is what is left of a number.
func Left(b []byte) []byte { return read(b, longest).left().bytes() }

// Combine is what is left of a product and a sum.
func Combine(a, b, c []byte) []byte {
	return combined(read(a, numberSize), read(b, numberSize), read(c, numberSize)).left().bytes()
}

// Small tells whether bytes are those of a number that is left.
func Small(b []byte) bool {
	if len(b) != numberSize {
		return false
	}
	n := read(b, numberSize)
	_, below := lessOrder(rest{n[0], n[1], n[2], n[3]})
	return below
}

// read is the number of bytes, the lowest first, of which at most so many count.
func read(b []byte, most int) (n words) {
	for i, c := range b[:min(len(b), most)] {
		n[i/8] |= uint64(c) << (i % 8 * 8)
	}
	return n
}

// length is how many bits a number has, from its highest 1 on.
func (n words) length() int {
	for i, word := range slices.Backward(n[:]) {
		if word != 0 {
			return i*wordBits + bits.Len64(word)
		}
	}
	return 0
}

// bits tells a number's bits one by one, from its highest 1 on.
func (n words) bits() iter.Seq[uint64] {
	return func(yield func(uint64) bool) {
		for at := n.length() - 1; at >= 0; at-- {
			if !yield(n[at/wordBits] >> (at % wordBits) & 1) {
				return
			}
		}
	}
}

// combined is a times b, and c, each below 2^256; so it is below 2^512.
func combined(a, b, c words) words {
	for i := range len(a) / 2 {
		carry := uint64(0)
		for j := range len(b) / 2 {
			// A product of words has room for two words more.
			high, low := bits.Mul64(a[i], b[j])
			low, over := bits.Add64(low, c[i+j], 0)
			high += over
			c[i+j], over = bits.Add64(low, carry, 0)
			carry = high + over
		}
		c[i+len(b)/2] = carry
	}
	return c
}

// left is what is left of a number modulo L.
func (n words) left() (r rest) {
	for bit := range n.bits() {
		r = r.twice(bit)
		if less, below := lessOrder(r); !below {
			r = less
		}
	}
	return r
}

// twice is twice a number that is below L, and a bit.
func (r rest) twice(bit uint64) rest {
	for i, word := range r {
		r[i], bit = word<<1|bit, word>>(wordBits-1)
	}
	return r
}

// lessOrder is r without L, modulo 2^256, and whether r is below L.
func lessOrder(r rest) (less rest, below bool) {
	borrow := uint64(0)
	for i, word := range order {
		less[i], borrow = bits.Sub64(r[i], word, borrow)
	}
	return less, borrow == 1
}

// bytes are a number's bytes.
func (r rest) bytes() []byte {
	out := make([]byte, numberSize)
	for i := range out {
		out[i] = byte(r[i/8] >> (i % 8 * 8))
	}
	return out
}
