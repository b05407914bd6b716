package digest

import "iter"

// longestBlock is how many bytes a block of the wider words has.
const longestBlock = 128

// run is a digest under way. It is a value through and through, so that a copy of it may be ended while it goes on itself.
type run[W word] struct {
	state [8]W
	left  [longestBlock]byte // at its front: the bytes of the block that is not whole yet
	many  int                // bytes that were written
}

// start is a run of no bytes.
func start[W word]() (r run[W]) {
	for i, root := range squareRoots {
		r.state[i] = front[W](root)
	}
	return r
}

// whole is the digest of all parts.
func whole[W word](parts [][]byte) []byte {
	r := start[W]()
	for _, part := range parts {
		r.write(part)
	}
	return r.sum()
}

// write puts bytes behind.
func (r *run[W]) write(data []byte) {
	for block := range r.blocks(data) {
		fold(&r.state, block)
	}
}

// blocks tells one by one the blocks that become whole when data are put behind; what makes none whole is left.
func (r *run[W]) blocks(data []byte) iter.Seq[[]byte] {
	return func(yield func([]byte) bool) {
		block := r.left[:blockSize[W]()]
		for len(data) > 0 {
			n := copy(block[r.many%len(block):], data)
			data = data[n:]
			r.many += n
			if r.many%len(block) == 0 && !yield(block) {
				return
			}
		}
	}
}

// sum ends the run, which is a copy, and is its state as bytes.
func (r run[W]) sum() []byte {
	r.write(ending(r.many, blockSize[W](), width[W]()/4))
	var out []byte
	for _, w := range r.state {
		for shift := width[W]() - 8; shift >= 0; shift -= 8 {
			out = append(out, byte(w>>shift))
		}
	}
	return out
}

// ending is what goes behind so many bytes to end a block: a byte 128, noughts, and the number of their bits in numberSize bytes.
func ending(many, blockSize, numberSize int) []byte {
	size := 1 + numberSize
	if past := (many + size) % blockSize; past > 0 {
		size += blockSize - past
	}
	out := make([]byte, size)
	out[0] = 128
	// Eight bytes hold the bits of as many bytes as the document's bound allows; those ahead of them stay noughts.
	bits := uint64(many) * 8
	for i := range 8 {
		out[size-1-i] = byte(bits >> (8 * i))
	}
	return out
}
