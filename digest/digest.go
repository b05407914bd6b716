// Package digest is layer 1: SHA-256, piece by piece, and SHA-512 (see shared/doc/01-digest.md).
package digest

// Hash is a digest (of words of 32 bits) under way.
type Hash struct{ run run[uint32] }

// New is one of no bytes.
func New() *Hash { return &Hash{start[uint32]()} }

// Write puts bytes behind.
func (h *Hash) Write(data []byte) { h.run.write(data) }

// Sum is the digest of all that was written; more may be written behind it.
func (h *Hash) Sum() []byte { return h.run.sum() }

// Len is how many bytes were written.
func (h *Hash) Len() int { return h.run.many }

// Sum256 is the digest, of 32 bytes, of all parts, one behind the other.
func Sum256(parts ...[]byte) []byte { return whole[uint32](parts) }

// Sum512 is the digest, of 64 bytes, of all parts, one behind the other.
func Sum512(parts ...[]byte) []byte { return whole[uint64](parts) }
