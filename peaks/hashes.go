package peaks

import "pantile/digest"

// What stands ahead of what is hashed, so that no leaf's hash is that of two.
const (
	aheadOfLeaf = 0
	aheadOfTwo  = 1
)

// Hashes is a range of hashes.
func Hashes() *Range[string] { return New(NodeHash) }

// LeafHash is the hash of a leaf.
func LeafHash(leaf []byte) string {
	return string(digest.Sum256([]byte{aheadOfLeaf}, leaf))
}

// NodeHash is the hash of two.
func NodeHash(a, b string) string {
	return string(digest.Sum256([]byte{aheadOfTwo}, []byte(a), []byte(b)))
}

// Root is the tree's one, of the leaves' hashes; of none the hash of nothing.
func Root(hashes []string) string {
	r := Hashes()
	for _, h := range hashes {
		r.Add(h)
	}
	if top, ok := r.Top(); ok {
		return top
	}
	return string(digest.Sum256())
}
