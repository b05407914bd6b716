package digest_test

import "math/big"

// model is the digest straight by the chapter's words, of words of w bits; its constants are reckoned, not written out.
type model struct {
	w              uint
	steps          int
	big0, big1     [3]uint
	small0, small1 [3]uint // the last one shifts
	squares, cubes []uint64
}

func model256() model {
	return newModel(32, 64, [3]uint{2, 13, 22}, [3]uint{6, 11, 25}, [3]uint{7, 18, 3}, [3]uint{17, 19, 10})
}

func model512() model {
	return newModel(64, 80, [3]uint{28, 34, 39}, [3]uint{14, 18, 41}, [3]uint{1, 8, 7}, [3]uint{19, 61, 6})
}

func newModel(w uint, steps int, big0, big1, small0, small1 [3]uint) model {
	m := model{w: w, steps: steps, big0: big0, big1: big1, small0: small0, small1: small1}
	for _, p := range firstPrimes(steps) {
		m.squares = append(m.squares, rootBits(p, 2, w))
		m.cubes = append(m.cubes, rootBits(p, 3, w))
	}
	return m
}

func firstPrimes(many int) (out []int64) {
	for n := int64(2); len(out) < many; n++ {
		prime := true
		for _, p := range out {
			prime = prime && n%p != 0
		}
		if prime {
			out = append(out, n)
		}
	}
	return out
}

// rootBits is the first w bits behind the point of n's root of that degree: the greatest number whose power is at most n times 2^(w*degree), without what stands ahead of the point.
func rootBits(n int64, degree, w uint) uint64 {
	limit := new(big.Int).Lsh(big.NewInt(n), w*degree)
	root := new(big.Int)
	for bit := int(w) + 10; bit >= 0; bit-- {
		root.SetBit(root, bit, 1)
		if new(big.Int).Exp(root, big.NewInt(int64(degree)), nil).Cmp(limit) > 0 {
			root.SetBit(root, bit, 0)
		}
	}
	one := big.NewInt(1)
	return root.Mod(root, new(big.Int).Lsh(one, w)).Uint64()
}

func (m model) cut(x uint64) uint64 { return x & (^uint64(0) >> (64 - m.w)) }

func (m model) right(x uint64, n uint) uint64 { return m.cut(x>>n | x<<(m.w-n)) }

func (m model) turned(x uint64, by [3]uint) uint64 {
	return m.right(x, by[0]) ^ m.right(x, by[1]) ^ m.right(x, by[2])
}

func (m model) shifted(x uint64, by [3]uint) uint64 {
	return m.right(x, by[0]) ^ m.right(x, by[1]) ^ x>>by[2]
}

// padded is data, a byte 128, noughts and the number of bits.
func (m model) padded(data []byte) []byte {
	out := append(append([]byte{}, data...), 128)
	number := int(m.w / 4)
	for (len(out)+number)%int(2*m.w) != 0 {
		out = append(out, 0)
	}
	bits := big.NewInt(int64(len(data)))
	return append(out, bits.Lsh(bits, 3).FillBytes(make([]byte, number))...)
}

func (m model) row(block []byte) []uint64 {
	size := int(m.w / 8)
	var row []uint64
	for t := range m.steps {
		if t < 16 {
			row = append(row, new(big.Int).SetBytes(block[t*size:(t+1)*size]).Uint64())
			continue
		}
		row = append(row, m.cut(m.shifted(row[t-2], m.small1)+row[t-7]+m.shifted(row[t-15], m.small0)+row[t-16]))
	}
	return row
}

func (m model) sum(data []byte) []byte {
	state := append([]uint64{}, m.squares[:8]...)
	padded, size := m.padded(data), int(2*m.w)
	for at := 0; at < len(padded); at += size {
		s := append([]uint64{}, state...)
		for t, w := range m.row(padded[at : at+size]) {
			ch := s[4]&s[5] | m.cut(^s[4])&s[6]
			maj := s[0]&s[1] | s[0]&s[2] | s[1]&s[2]
			x := s[7] + m.turned(s[4], m.big1) + ch + m.cubes[t] + w
			y := m.turned(s[0], m.big0) + maj
			s = []uint64{m.cut(x + y), s[0], s[1], s[2], m.cut(s[3] + x), s[4], s[5], s[6]}
		}
		for i := range state {
			state[i] = m.cut(state[i] + s[i])
		}
	}
	var out []byte
	for _, x := range state {
		out = append(out, new(big.Int).SetUint64(x).FillBytes(make([]byte, m.w/8))...)
	}
	return out
}
