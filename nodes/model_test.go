package nodes_test

import (
	"crypto/sha256"
	"fmt"
	"math/big"
	"slices"
	"strconv"
	"testing"

	"pantile/api"
	"pantile/drive"
	"pantile/kv"
	"pantile/nodes"
)

const roomy = 1 << 24

func sum(parts ...string) string {
	h := sha256.New()
	for _, p := range parts {
		h.Write([]byte(p))
	}
	return string(h.Sum(nil))
}

func modelJoin(a, b string) string { return sum("\x01", a, b) }

// leaves are so many leaves' hashes.
func leaves(n int) []string {
	out := make([]string, n)
	for i := range out {
		out[i] = sum("\x00", strconv.Itoa(i))
	}
	return out
}

// modelKey is the key of a node, as Go's own library prints numbers.
func modelKey(level int, index any) string { return fmt.Sprintf("n/%02d/%07d", level, index) }

// modelOne is what hashes make, as many as a power of two.
func modelOne(hashes []string) string {
	if len(hashes) == 1 {
		return hashes[0]
	}
	half := len(hashes) / 2
	return modelJoin(modelOne(hashes[:half]), modelOne(hashes[half:]))
}

// modelPeaks are those of hashes: of the greatest power of two of them, then of the others.
func modelPeaks(hashes []string) (out []string) {
	for len(hashes) > 0 {
		many := 1
		for 2*many <= len(hashes) {
			many *= 2
		}
		out = append(out, modelOne(hashes[:many]))
		hashes = hashes[many:]
	}
	return out
}

// modelWrites are those of the nodes of all leaves that the first n have not: of each leaf those that end with it, be it as a leaf or as the last of more.
func modelWrites(n int, all []string) (out []api.Write) {
	for end := n + 1; end <= len(all); end++ {
		for level, many := 0, 1; end%many == 0; level, many = level+1, 2*many {
			out = append(out, api.Write{Key: modelKey(level, end/many-1), Value: modelOne(all[end-many : end])})
		}
	}
	return out
}

// bigGrow is Grow by big numbers, of peaks that may be any texts.
func bigGrow(n int, peaks, hashes []string) (writes []api.Write, now []string) {
	now = slices.Clone(peaks)
	index := big.NewInt(int64(n))
	for _, h := range hashes {
		writes = append(writes, api.Write{Key: modelKey(0, index), Value: h})
		now = append(now, h)
		for level := 0; index.Bit(level) == 1; level++ {
			k := len(now) - 2
			now = append(now[:k:k], modelJoin(now[k], now[k+1]))
			above := new(big.Int).Rsh(index, uint(level+1))
			writes = append(writes, api.Write{Key: modelKey(level+1, above), Value: now[k]})
		}
		index = new(big.Int).Add(index, big.NewInt(1))
	}
	return writes, now
}

// sizes are numbers of leaves: all the lesser ones, and around powers of two.
func sizes() (out []int) {
	for n := range 35 {
		out = append(out, n)
	}
	for n := 64; n <= 512; n *= 2 {
		out = append(out, n-1, n, n+1)
	}
	return out
}

// grown is a store with the nodes of hashes, and the peaks, written in parts of at most so many leaves.
func grown(t *testing.T, hashes []string, part int) (*kv.Store, *drive.Drive, []string) {
	t.Helper()
	d := drive.New(roomy)
	s := opened(t, d)
	var peaks []string
	for n := 0; n < len(hashes); n += part {
		var writes []api.Write
		writes, peaks = nodes.Grow(n, peaks, hashes[n:min(n+part, len(hashes))])
		apply(t, s, writes...)
	}
	return s, d, peaks
}

func opened(t *testing.T, d *drive.Drive) *kv.Store {
	t.Helper()
	s, e := kv.Open(d, "tree")
	if e != api.OK {
		t.Fatalf("Open: %v", e)
	}
	return s
}

func apply(t *testing.T, s *kv.Store, writes ...api.Write) {
	t.Helper()
	if e := s.Apply(writes); e != api.OK {
		t.Fatalf("Apply: %v", e)
	}
}
