package proof

import (
	"math/bits"
	"slices"

	"pantile/api"
	"pantile/peaks"
)

// part is the leaves from one on to another, without that.
type part struct{ from, to int }

// split is a part of more than one leaf in two: the greatest power of two that is less than how many they are, and the others.
func (p part) split() (part, part) {
	k := 1 << (bits.Len(uint(p.to-p.from-1)) - 1)
	return part{p.from, p.from + k}, part{p.from + k, p.to}
}

// pathParts are the parts whose ones are the path of the leaf m among n.
func pathParts(m, n int) []part {
	_, others := down(m, n, func(p part) bool { return p.to-p.from == 1 })
	return others
}

// proofParts are the parts whose ones are the proof that the first m of n leaves are a tree's.
func proofParts(m, n int) []part {
	if m == 0 {
		return nil
	}
	// The proof goes the way of the last leaf of m: a part goes on with the first k as long as m is not above k.
	last, others := down(m-1, n, func(p part) bool { return p.to == m })
	if last.from == 0 { // the first m leaves themselves, which who checks has already
		return others
	}
	return slices.Concat([]part{last}, others)
}

// down goes from n leaves on to a part with the leaf m that is the end: that part, and the others that it leaves aside, the last one first.
func down(m, n int, end func(p part) bool) (part, []part) {
	p := part{0, n}
	var others []part
	for !end(p) {
		left, right := p.split()
		if m < right.from {
			p, others = left, append(others, right)
		} else {
			p, others = right, append(others, left)
		}
	}
	slices.Reverse(others)
	return p, others
}

// ones are the tree's ones of parts.
func ones(s Source, parts []part) ([]string, api.Errno) {
	var out []string
	for _, p := range parts {
		h, e := one(s, p)
		if e != api.OK {
			return nil, e
		}
		out = append(out, h)
	}
	return out, api.OK
}

// one is the tree's one of a part to which splits lead: so a part that has a power of two of leaves begins at a multiple of it, and is a node.
func one(s Source, p part) (string, api.Errno) {
	level := bits.TrailingZeros(uint(p.to - p.from))
	if p.to-p.from == 1<<level {
		return told(s.Node(level, p.from>>level))
	}
	left, right := p.split()
	a, e := one(s, left)
	if e != api.OK {
		return "", e
	}
	b, e := one(s, right)
	if e != api.OK {
		return "", e
	}
	return peaks.NodeHash(a, b), api.OK
}

// told is a node that a source has told, or not.
func told(h string, ok bool) (string, api.Errno) {
	if !ok {
		return "", api.ErrNone
	}
	return h, api.OK
}
