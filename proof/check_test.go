package proof_test

import (
	"math/rand"
	"slices"
	"strings"
	"testing"

	"pantile/api"
	"pantile/peaks"
	"pantile/proof"
)

// errno is what a check tells of what is right, or not.
func errno(right bool) api.Errno {
	if right {
		return api.OK
	}
	return api.ErrProof
}

// checksPath checks a path, and holds what is told against RFC 9162.
func checksPath(t *testing.T, leaf string, m, n int, path []string, root string, want api.Errno) {
	t.Helper()
	if want != errno(rightPath(leaf, m, n, path, root)) {
		t.Fatalf("the path of %d among %d: the model tells another thing than %v", m, n, want)
	}
	is(t, "CheckInclusion", proof.CheckInclusion(leaf, m, n, path, root), want, m, n)
}

// checksProof checks a proof, and holds what is told against RFC 9162.
func checksProof(t *testing.T, m, n int, path []string, first, second string, want api.Errno) {
	t.Helper()
	if want != errno(rightProof(m, n, path, first, second)) {
		t.Fatalf("the proof of %d in %d: the model tells another thing than %v", m, n, want)
	}
	is(t, "CheckConsistency", proof.CheckConsistency(m, n, path, first, second), want, m, n)
}

// P10.4, P10.3: each path that is told is checked against its root, each proof against both.
func TestToldIsChecked(t *testing.T) {
	model := treeOf(leaves(900))
	s := proof.Of(model.hashes)
	for _, n := range sizes() {
		second, _ := proof.Root(s, n)
		for _, m := range firsts(n) {
			first, _ := proof.Root(s, m)
			path, _ := proof.Consistency(s, m, n)
			checksProof(t, m, n, path, first, second, api.OK)
			if m < n {
				path, _ = proof.Inclusion(s, m, n)
				checksPath(t, model.hashes[m], m, n, path, second, api.OK)
			}
		}
	}
}

// P10.4: likewise of as many leaves as there may be.
func TestToldOfManyIsChecked(t *testing.T) {
	s := manyAlike()
	for _, n := range []int{api.MaxLeaves - 1, api.MaxLeaves, api.MaxLeaves/2 + 1, api.MaxLeaves / 3} {
		second, _ := proof.Root(s, n)
		for _, m := range []int{0, 1, 2, 3, 1000, 1 << 19, 1<<19 + 1, 1<<19 - 1, n / 3, n - 2, n - 1, n} {
			if m > n {
				continue
			}
			first, _ := proof.Root(s, m)
			path, e := proof.Consistency(s, m, n)
			is(t, "Consistency", e, api.OK, m, n)
			checksProof(t, m, n, path, first, second, api.OK)
			if m < n {
				path, e = proof.Inclusion(s, m, n)
				is(t, "Inclusion", e, api.OK, m, n)
				checksPath(t, s[0], m, n, path, second, api.OK)
			}
		}
	}
	root, e := proof.Root(s, api.MaxLeaves)
	tells(t, "Root", []string{root}, e, s[20:21], api.MaxLeaves)
}

// others are paths that are like one, but changed: too short, too long, with one text changed, two turned round, or others.
func others(path []string) [][]string {
	var out [][]string
	for i := range len(path) + 1 {
		out = append(out, slices.Insert(slices.Clone(path), i, leafHash(5000)), slices.Insert(slices.Clone(path), i, ""))
		if i == len(path) {
			break
		}
		out = append(out, slices.Delete(slices.Clone(path), i, i+1), slices.Insert(slices.Clone(path), i, path[i]))
		for _, h := range changed(path[i]) {
			other := slices.Clone(path)
			other[i] = h
			out = append(out, other)
		}
		if i > 0 {
			other := slices.Clone(path)
			other[i-1], other[i] = other[i], other[i-1]
			out = append(out, other)
		}
	}
	if len(path) > 0 {
		out = append(out, nil, slices.Concat(path, path))
	}
	return append(out, slices.Repeat([]string{leafHash(5001)}, 60), slices.Repeat([]string{""}, len(path)+1))
}

// changed are texts that are like a hash, but not the same.
func changed(h string) []string {
	b := []byte(h)
	b[0] ^= 1
	c := []byte(h)
	c[31] ^= 128
	return []string{leafHash(5002), "", h[1:], h[:31], h + "\x00", "\x00" + h, h + h, string(b), string(c)}
}

// P10.3: paths that are too short, too long, or changed prove nothing, nor do others' leaves, and roots that are changed.
func TestWrongPaths(t *testing.T) {
	model := treeOf(leaves(141))
	for _, n := range []int{1, 2, 3, 4, 5, 6, 7, 8, 9, 13, 16, 17, 31, 32, 33, 64, 65, 140} {
		for m := range n {
			if n > 40 && m%13 != 0 && m < n-2 {
				continue
			}
			leaf, path, root := model.hashes[m], model.path(m, n), model.root(n)
			for _, other := range others(path) {
				checksPath(t, leaf, m, n, other, root, api.ErrProof)
			}
			for _, h := range append(changed(leaf), model.hashes[(m+1)%140]) {
				checksPath(t, h, m, n, path, root, api.ErrProof)
			}
			for _, h := range append(changed(root), model.root(n+1), model.root(0)) {
				if h != root {
					checksPath(t, leaf, m, n, path, h, api.ErrProof)
				}
			}
		}
	}
}

// P10.3: proofs that are too short, too long, or changed prove nothing, nor do roots that are changed, the first one or the second.
func TestWrongProofs(t *testing.T) {
	model := treeOf(leaves(141))
	for _, n := range []int{1, 2, 3, 4, 5, 6, 7, 8, 9, 13, 16, 17, 31, 32, 33, 64, 65, 140} {
		for _, m := range firsts(n)[1:] {
			first, path, second := model.root(m), model.proof(m, n), model.root(n)
			for _, other := range others(path) {
				checksProof(t, m, n, other, first, second, api.ErrProof)
			}
			for _, h := range append(changed(first), model.root(m+1), model.root(m-1)) {
				checksProof(t, m, n, path, h, second, api.ErrProof)
			}
			for _, h := range append(changed(second), model.root(n+1), model.root(n-1)) {
				checksProof(t, m, n, path, first, h, api.ErrProof)
			}
			if m < n {
				checksProof(t, m, n, path, second, first, api.ErrProof)
			}
		}
	}
}

// P10.3: a path is one of its place alone, a proof of its numbers, but where it proves the others too.
func TestOtherPlaces(t *testing.T) {
	model := treeOf(leaves(36))
	for n := range 20 {
		for m := range n + 1 {
			for of := range 36 {
				for at := range of + 1 {
					path := model.proof(m, n)
					is(t, "CheckConsistency", proof.CheckConsistency(at, of, path, model.root(m), model.root(n)), errno(rightProof(at, of, path, model.root(m), model.root(n))), m, n, at, of)
					if m < n && at < of {
						path, leaf := model.path(m, n), model.hashes[m]
						is(t, "CheckInclusion", proof.CheckInclusion(leaf, at, of, path, model.root(n)), errno(rightPath(leaf, at, of, path, model.root(n))), m, n, at, of)
					}
				}
			}
		}
	}
}

// P10.3: of no leaves a proof without anything is OK, whatever the roots, and one with anything is none.
func TestProofOfNone(t *testing.T) {
	roots := []string{"", "a", peaks.Root(nil), leafHash(0), leafHash(1)}
	for _, n := range []int{0, 1, 2, 3, 8, 1000, api.MaxLeaves} {
		for _, first := range roots {
			for _, second := range roots {
				checksProof(t, 0, n, nil, first, second, api.OK)
				checksProof(t, 0, n, []string{}, first, second, api.OK)
				for _, h := range roots {
					checksProof(t, 0, n, []string{h}, first, second, api.ErrProof)
				}
			}
		}
	}
}

// P10.3: of all leaves a proof without anything is OK where both roots are the same, of a whole node and of none.
func TestProofOfAll(t *testing.T) {
	roots := []string{"", "a", leafHash(0), leafHash(1)}
	for _, n := range []int{1, 2, 3, 4, 7, 8, 1000, 1024, api.MaxLeaves - 1, api.MaxLeaves} {
		for _, first := range roots {
			for _, second := range roots {
				checksProof(t, n, n, nil, first, second, errno(first == second))
				checksProof(t, n, n, []string{first}, first, second, api.ErrProof)
			}
		}
	}
}

// P10.3: where m leaves are a whole node, first stands in for it: so a changed one leads to another second one.
func TestFirstStandsIn(t *testing.T) {
	h := leaves(7)
	two := peaks.NodeHash
	path := []string{h[2], h[3]}
	checksProof(t, 2, 4, []string{"other"}, "first", two("first", "other"), api.OK)
	checksProof(t, 1, 4, path, "first", two(two("first", h[2]), h[3]), api.OK)
	checksProof(t, 3, 4, []string{h[2], h[3], "left"}, two("left", h[2]), two("left", two(h[2], h[3])), api.OK)
	checksProof(t, 3, 4, []string{h[2], h[3], "left"}, two("left", h[3]), two("left", two(h[2], h[3])), api.ErrProof)
	checksProof(t, 3, 4, []string{h[3], "left"}, two("left", h[2]), two("left", two(h[2], h[3])), api.ErrProof)
	checksProof(t, 2, 4, []string{two(h[0], h[1]), two(h[2], h[3])}, two(h[0], h[1]), two(two(h[0], h[1]), two(h[2], h[3])), api.ErrProof)
}

// P10.3: texts that are no hashes are taken as they are: what counts is what they make.
func TestCheckOfOtherTexts(t *testing.T) {
	texts := []string{"", "a", "\xff\x00", strings.Repeat("long", 30), "z"}
	model := treeOf(texts)
	for n := range 6 {
		for m := range n {
			checksPath(t, texts[m], m, n, model.path(m, n), model.root(n), api.OK)
			checksPath(t, texts[m]+"x", m, n, model.path(m, n), model.root(n), api.ErrProof)
			checksProof(t, m, n, model.proof(m, n), model.root(m), model.root(n), api.OK)
		}
	}
	checksPath(t, "ab", 0, 2, []string{"c"}, peaks.NodeHash("a", "bc"), api.OK)
}

// P10.3, R2: ErrRange, ahead of what else is wrong.
func TestCheckOutOfRange(t *testing.T) {
	bad := func(m, n int) {
		t.Helper()
		for _, path := range [][]string{nil, {leafHash(1)}, leaves(30)} {
			is(t, "CheckInclusion", proof.CheckInclusion(leafHash(0), m, n, path, leafHash(0)), api.ErrRange, m, n)
			if m != n || n < 0 || n > api.MaxLeaves {
				is(t, "CheckConsistency", proof.CheckConsistency(m, n, path, leafHash(0), leafHash(0)), api.ErrRange, m, n)
			}
		}
	}
	for _, n := range far() {
		for _, m := range append(far(), 0, 1, n-1, n) {
			bad(m, n)
		}
	}
	for _, n := range []int{0, 1, 2, 3, 4, 5, 64, 1000, api.MaxLeaves - 1, api.MaxLeaves} {
		for _, m := range append(far(), n, n+1, n+2, 2*n+1) {
			bad(m, n)
		}
	}
}

// P10.3: of as many leaves as there may be what is too short, too long or changed proves nothing.
func TestWrongOfMany(t *testing.T) {
	s := manyAlike()
	for _, n := range []int{api.MaxLeaves - 1, api.MaxLeaves} {
		for _, m := range []int{1, 1 << 19, n / 3, n - 1} {
			first, _ := proof.Root(s, m)
			second, _ := proof.Root(s, n)
			path, _ := proof.Consistency(s, m, n)
			for _, other := range others(path)[:20] {
				if !slices.Equal(other, path) { // the same ones, turned round
					checksProof(t, m, n, other, first, second, api.ErrProof)
				}
			}
			path, _ = proof.Inclusion(s, m, n)
			for _, other := range others(path)[:20] {
				if !slices.Equal(other, path) {
					checksPath(t, s[0], m, n, other, second, api.ErrProof)
				}
			}
		}
	}
}

// P10.3: whatever is put together by chance is told as RFC 9162 does.
func TestChecksByChance(t *testing.T) {
	chance := rand.New(rand.NewSource(10))
	model := treeOf(leaves(70))
	for range 6000 {
		n := chance.Intn(70)
		m := chance.Intn(n + 1)
		at, of := m, n
		if chance.Intn(4) == 0 {
			of = chance.Intn(70)
			at = chance.Intn(of + 1)
		}
		path := altered(chance, model.proof(m, n))
		first, second := model.root(m), model.root(n)
		is(t, "CheckConsistency", proof.CheckConsistency(at, of, path, first, second), errno(rightProof(at, of, path, first, second)), m, n, at, of)
		if m < n && at < of {
			path = altered(chance, model.path(m, n))
			is(t, "CheckInclusion", proof.CheckInclusion(model.hashes[m], at, of, path, second), errno(rightPath(model.hashes[m], at, of, path, second)), m, n, at, of)
		}
	}
}

// altered is a path, or one that is like it.
func altered(chance *rand.Rand, path []string) []string {
	if chance.Intn(2) == 0 {
		return path
	}
	like := others(path)
	return like[chance.Intn(len(like))]
}

// R4, R5: a path that is checked stays as it was, its spare room too, and what is told of it is told again.
func TestPathStays(t *testing.T) {
	model := treeOf(leaves(40))
	for n := range 40 {
		for m := range n {
			path, proved := roomy(model.path(m, n)), roomy(model.proof(m, n))
			for range 2 {
				is(t, "CheckInclusion", proof.CheckInclusion(model.hashes[m], m, n, path, model.root(n)), api.OK, m, n)
				is(t, "CheckInclusion", proof.CheckInclusion("other", m, n, path, model.root(n)), api.ErrProof, m, n)
				is(t, "CheckConsistency", proof.CheckConsistency(m, n, proved, model.root(m), model.root(n)), api.OK, m, n)
				is(t, "CheckConsistency", proof.CheckConsistency(m, n, proved, model.root(m), "other"), errno(m == 0), m, n)
				stays(t, path, model.path(m, n), m, n)
				stays(t, proved, model.proof(m, n), m, n)
			}
		}
	}
}

// roomy is a path with room behind it, in which something stands.
func roomy(path []string) []string {
	return append(slices.Clone(path), "behind", "it")[:len(path)]
}

// stays tells where a roomy path is not as it was.
func stays(t *testing.T, path, was []string, m, n int) {
	t.Helper()
	if !slices.Equal(path[:len(path)+2], append(was, "behind", "it")) {
		t.Errorf("of %d among %d: a check left %x", m, n, path[:len(path)+2])
	}
}
