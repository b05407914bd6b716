package field

import (
	"math/bits"
	"slices"
)

const (
	limbBits = 51
	limbMask = 1<<limbBits - 1
)

// limbs are a residue: of the limb at i as many times 2^(51 i), all added up. Each limb is below 2^51 + 2^16, so that they may stand for more than the least number. What is reckoned goes into limbs in place, for copies of them take longer than the sums.
type limbs [5]uint64

// small is a number of 64 bits.
func small(n uint64) limbs { return limbs{n & limbMask, n >> limbBits} }

// place is where the lowest bit of a form's byte stands: in which limb, and how high.
func place(at int) (limb, shift int) { return at * 8 / limbBits, at * 8 % limbBits }

// unpack is the number of 32 bytes, the lowest first, without its highest bit.
func unpack(b []byte) (l limbs) {
	for at, c := range b {
		limb, shift := place(at)
		l[limb] |= uint64(c) << shift & limbMask
		if limb < len(l)-1 {
			l[limb+1] |= uint64(c) >> (limbBits - shift)
		}
	}
	return l
}

// pack is 32 bytes, the lowest first, of limbs that are the least.
func (l limbs) pack() []byte {
	out := make([]byte, formSize)
	for at := range out {
		limb, shift := place(at)
		out[at] = byte(l[limb] >> shift)
		if limb < len(l)-1 {
			out[at] |= byte(l[limb+1] << (limbBits - shift))
		}
	}
	return out
}

// carry takes sums of limbs, and hands what each has above its bits to the next one; the last one's comes back to the first 19 times, as 2^255 is 19 modulo p.
func (l *limbs) carry(s0, s1, s2, s3, s4 uint64) {
	l[0] = s0&limbMask + s4>>limbBits*19
	l[1] = s1&limbMask + s0>>limbBits
	l[2] = s2&limbMask + s1>>limbBits
	l[3] = s3&limbMask + s2>>limbBits
	l[4] = s4&limbMask + s3>>limbBits
}

// least is the least number of a residue, from 0 to p - 1.
func (l limbs) least() limbs {
	// Limbs stand for less than 2p; for p or more just if 19 more reach 2^255, and then it is those 19 more, without 2^255, that are the least.
	over := uint64(19)
	for _, limb := range l {
		over = (limb + over) >> limbBits
	}
	more := 19 * over
	for i, limb := range l {
		l[i], more = (limb+more)&limbMask, (limb+more)>>limbBits
	}
	return l
}

// plus is the sum of two, either of which may be the same limbs.
func (l *limbs) plus(x, y *limbs) {
	l.carry(x[0]+y[0], x[1]+y[1], x[2]+y[2], x[3]+y[3], x[4]+y[4])
}

// minus is the difference of two, and 2p more, so that no limb falls below 0.
func (l *limbs) minus(x, y *limbs) {
	const first, other = 2 * (limbMask - 18), 2 * limbMask
	l.carry(x[0]+first-y[0], x[1]+other-y[1], x[2]+other-y[2], x[3]+other-y[3], x[4]+other-y[4])
}

// wide is a sum of products of limbs.
type wide struct{ high, low uint64 }

// plus adds the product of two.
func (w wide) plus(x, y uint64) wide {
	high, low := bits.Mul64(x, y)
	low, carry := bits.Add64(w.low, low, 0)
	return wide{w.high + high + carry, low}
}

// own is what stays in the sum's own limb.
func (w wide) own() uint64 { return w.low & limbMask }

// over is what goes to the next limb.
func (w wide) over() uint64 { return w.high<<(64-limbBits) | w.low>>limbBits }

// times is the product of two, either of which may be the same limbs. Its 25 products are written out, for a loop takes twice as long; those that stand beyond the last limb come back 19 times.
func (l *limbs) times(x, y *limbs) {
	x0, x1, x2, x3, x4 := x[0], x[1], x[2], x[3], x[4]
	y0, y1, y2, y3, y4 := y[0], y[1], y[2], y[3], y[4]
	b1, b2, b3, b4 := x1*19, x2*19, x3*19, x4*19
	r0 := wide{}.plus(x0, y0).plus(b1, y4).plus(b2, y3).plus(b3, y2).plus(b4, y1)
	r1 := wide{}.plus(x0, y1).plus(x1, y0).plus(b2, y4).plus(b3, y3).plus(b4, y2)
	r2 := wide{}.plus(x0, y2).plus(x1, y1).plus(x2, y0).plus(b3, y4).plus(b4, y3)
	r3 := wide{}.plus(x0, y3).plus(x1, y2).plus(x2, y1).plus(x3, y0).plus(b4, y4)
	r4 := wide{}.plus(x0, y4).plus(x1, y3).plus(x2, y2).plus(x3, y1).plus(x4, y0)
	l.carry(
		r0.own()+19*r4.over(),
		r1.own()+r0.over(),
		r2.own()+r1.over(),
		r3.own()+r2.over(),
		r4.own()+r3.over(),
	)
}

// power is the power of a number, the lowest byte first, taken by digits of sixteen from the highest on.
func (l *limbs) power(exp []byte) limbs {
	powers := [16]limbs{small(1)}
	for i := 1; i < len(powers); i++ {
		powers[i].times(&powers[i-1], l)
	}
	out := small(1)
	for _, b := range slices.Backward(exp) {
		for _, digit := range [2]byte{b >> 4, b & 15} {
			for range 4 {
				out.times(&out, &out)
			}
			out.times(&out, &powers[digit])
		}
	}
	return out
}
