package proof_test

import (
	"encoding/hex"
	"slices"
	"strconv"
	"strings"
	"testing"

	"pantile/api"
	"pantile/digest"
	"pantile/peaks"
)

// left is the greatest power of two that is less than n.
func left(n int) int {
	k := 1
	for 2*k < n {
		k *= 2
	}
	return k
}

// place is where a node is.
type place struct{ level, index int }

// span is the leaves from one on to another.
type span struct{ from, to int }

// tree is leaves' hashes, of which all is reckoned by the chapter's words; what was reckoned once is kept.
type tree struct {
	hashes []string
	ones   map[span]string
}

func treeOf(hashes []string) *tree { return &tree{hashes, map[span]string{}} }

// one is the tree's one of the leaves a to b.
func (t *tree) one(a, b int) string {
	if b-a == 1 {
		return t.hashes[a]
	}
	if _, ok := t.ones[span{a, b}]; !ok {
		k := left(b - a)
		t.ones[span{a, b}] = modelNode(t.one(a, a+k), t.one(a+k, b))
	}
	return t.ones[span{a, b}]
}

// root is the one of the first n leaves.
func (t *tree) root(n int) string {
	if n == 0 {
		return string(digest.Sum256())
	}
	return t.one(0, n)
}

// modelPath is where the ones of the path of m (counted from a on) among the leaves a to b are.
func modelPath(m, a, b int) []span {
	if b-a == 1 {
		return nil
	}
	k := left(b - a)
	if m < k {
		return append(modelPath(m, a, a+k), span{a + k, b})
	}
	return append(modelPath(m-k, a+k, b), span{a, a + k})
}

// modelProof is where the ones of PROOF(m, a to b, whole) are.
func modelProof(m, a, b int, whole bool) []span {
	if m == b-a && whole {
		return nil
	}
	if m == b-a {
		return []span{{a, b}}
	}
	k := left(b - a)
	if m <= k {
		return append(modelProof(m, a, a+k, whole), span{a + k, b})
	}
	return append(modelProof(m-k, a+k, b, false), span{a, a + k})
}

// path is the path of m among the first n leaves.
func (t *tree) path(m, n int) []string { return t.all(modelPath(m, 0, n)) }

// proof is the proof of m among the first n leaves.
func (t *tree) proof(m, n int) []string {
	if m == 0 {
		return nil
	}
	return t.all(modelProof(m, 0, n, true))
}

func (t *tree) all(spans []span) (out []string) {
	for _, s := range spans {
		out = append(out, t.one(s.from, s.to))
	}
	return out
}

// node is the node of a level at an index, and whether all its leaves are there.
func (t *tree) node(level, index int) (string, bool) {
	if level < 0 || level > 40 || index < 0 || index >= len(t.hashes)>>level {
		return "", false
	}
	return t.one(index<<level, (index+1)<<level), true
}

// places are the nodes of which the one of a span is made.
func places(s span) []place {
	many := s.to - s.from
	for level := range 41 {
		if many == 1<<level && s.from%many == 0 {
			return []place{{level, s.from / many}}
		}
	}
	k := left(many)
	return append(places(span{s.from, s.from + k}), places(span{s.from + k, s.to})...)
}

func allPlaces(spans []span) (out []place) {
	for _, s := range spans {
		out = append(out, places(s)...)
	}
	return out
}

func modelNode(a, b string) string { return string(digest.Sum256([]byte("\x01" + a + b))) }

// rightPath tells whether a path is right, as RFC 9162 (2.1.3.2) does, from the leaf on by the bits of places.
func rightPath(leaf string, m, n int, path []string, root string) bool {
	at, last := m, n-1
	for _, h := range path {
		if last == 0 {
			return false
		}
		if at%2 == 1 || at == last {
			leaf = modelNode(h, leaf)
			for at%2 == 0 && at != 0 {
				at, last = at/2, last/2
			}
		} else {
			leaf = modelNode(leaf, h)
		}
		at, last = at/2, last/2
	}
	return last == 0 && leaf == root
}

// rightProof tells whether a proof is right, as RFC 9162 (2.1.4.2) does; of all leaves and of none as the chapter does.
func rightProof(m, n int, path []string, first, second string) bool {
	if m == 0 {
		return len(path) == 0
	}
	if m == n {
		return len(path) == 0 && first == second
	}
	if m&(m-1) == 0 {
		path = append([]string{first}, path...)
	}
	if len(path) == 0 {
		return false
	}
	at, last := m-1, n-1
	for at%2 == 1 {
		at, last = at/2, last/2
	}
	a, b := path[0], path[0]
	for _, h := range path[1:] {
		if last == 0 {
			return false
		}
		if at%2 == 1 || at == last {
			a, b = modelNode(h, a), modelNode(h, b)
			for at%2 == 0 && at != 0 {
				at, last = at/2, last/2
			}
		} else {
			b = modelNode(b, h)
		}
		at, last = at/2, last/2
	}
	return last == 0 && a == first && b == second
}

// some is a source of some nodes, which keeps what it was asked for.
type some struct {
	nodes map[place]string
	asked []place
}

func (s *some) Node(level, index int) (string, bool) {
	s.asked = append(s.asked, place{level, index})
	h, ok := s.nodes[place{level, index}]
	if !ok {
		return "not told", false
	}
	return h, true
}

// only is a source of these nodes of a tree alone.
func (t *tree) only(at []place) *some {
	s := &some{nodes: map[place]string{}}
	for _, p := range at {
		s.nodes[p], _ = t.node(p.level, p.index)
	}
	return s
}

// alike is a source of as many leaves as are asked for, which are all the same: so are the nodes of a level.
type alike []string

func manyAlike() alike {
	out := alike{peaks.LeafHash([]byte("alike"))}
	for range 40 {
		out = append(out, modelNode(out[len(out)-1], out[len(out)-1]))
	}
	return out
}

func (a alike) Node(level, index int) (string, bool) { return a[level], index >= 0 }

func leafHash(i int) string { return peaks.LeafHash([]byte(strconv.Itoa(i))) }

// leaves are the hashes of so many leaves.
func leaves(n int) []string {
	out := make([]string, n)
	for i := range out {
		out[i] = leafHash(i)
	}
	return out
}

// sizes are numbers of leaves: all the small ones, and those around powers of two.
func sizes() []int {
	var out []int
	for n := range 36 {
		out = append(out, n)
	}
	for k := 64; k <= 512; k *= 2 {
		out = append(out, k-2, k-1, k, k+1, k+2, k+k/2, k+k/2+1)
	}
	return out
}

// firsts are numbers of 0 to n: all of a small n, else those around powers of two and n, and some others.
func firsts(n int) []int {
	var out []int
	for m := range n + 1 {
		near := m <= 2 || m >= n-2 || m&(m-1) == 0 || m&(m+1) == 0 || (m-1)&(m-2) == 0
		if n < 40 || near || m%37 == 5 {
			out = append(out, m)
		}
	}
	return out
}

// ofDigits are the bytes of digits of sixteen, as texts.
func ofDigits(words string) (out []string) {
	for _, w := range strings.Fields(words) {
		b, err := hex.DecodeString(w)
		if err != nil {
			panic(err)
		}
		out = append(out, string(b))
	}
	return out
}

// knownLeaves are the hashes of the leaves of which others reckoned proofs.
func knownLeaves() []string {
	out := []string{peaks.LeafHash(nil)}
	for _, b := range ofDigits("00 10 2021 3031 40414243 5051525354555657 606162636465666768696a6b6c6d6e6f") {
		out = append(out, peaks.LeafHash([]byte(b)))
	}
	return out
}

// is tells where an error is not the one that was wanted.
func is(t *testing.T, what string, got, want api.Errno, at ...int) {
	t.Helper()
	if got != want {
		t.Errorf("%s %v: %v, not %v", what, at, got, want)
	}
}

// tells tells where what was answered is not the list that was wanted, and OK.
func tells(t *testing.T, what string, got []string, e api.Errno, want []string, at ...int) {
	t.Helper()
	if e != api.OK || !slices.Equal(got, want) {
		t.Errorf("%s %v: %x %v, not %x", what, at, got, e, want)
	}
}

// refuses tells where what was answered is not an error alone.
func refuses(t *testing.T, what string, got []string, e, want api.Errno, at ...int) {
	t.Helper()
	if e != want || len(got) != 0 {
		t.Errorf("%s %v: %x %v, not %v", what, at, got, e, want)
	}
}
