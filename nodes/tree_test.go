package nodes_test

import (
	"math"
	"math/bits"
	"slices"
	"testing"

	"pantile/api"
	"pantile/drive"
	"pantile/kv"
	"pantile/nodes"
	"pantile/proof"
)

func far() []int {
	return []int{math.MinInt, math.MinInt + 1, -1 << 40, -100, -64, -2, -1, 40, 41, 99, 100, 101, 1 << 20, 1 << 40, 1 << 62, math.MaxInt - 1, math.MaxInt}
}

// none tells where a tree has a node.
func none(t *testing.T, tree nodes.Tree, level, index int) {
	t.Helper()
	if got, ok := tree.Node(level, index); ok || got != "" {
		t.Errorf("Node(%d, %d): %x %v", level, index, got, ok)
	}
}

// tells tells where a tree tells another thing than a source of hashes, or other peaks than theirs.
func tells(t *testing.T, what string, tree nodes.Tree, hashes []string) {
	t.Helper()
	s := proof.Of(hashes)
	for level := -3; level <= 45; level++ {
		for index := -3; index <= len(hashes)>>max(level, 0)+3; index++ {
			got, ok := tree.Node(level, index)
			if want, is := s.Node(level, index); got != want || ok != is {
				t.Errorf("%s: of %d: Node(%d, %d): %x %v, not %x %v", what, len(hashes), level, index, got, ok, want, is)
			}
		}
	}
	for _, x := range far() {
		for y := -1; y < 3; y++ {
			none(t, tree, x, y)
			if x < 0 || x > len(hashes) {
				none(t, tree, y, x)
			}
		}
	}
	for n := range len(hashes) + 1 {
		if got := tree.Peaks(n); !slices.Equal(got, modelPeaks(hashes[:n])) {
			t.Errorf("%s: of %d: Peaks(%d): %x", what, len(hashes), n, got)
		}
	}
}

// P15.3, P15.4: behind Grow and Apply, of trees of all sizes, grown at once and in parts, behind a Compact, too, and opened anew.
func TestTreesThatGrew(t *testing.T) {
	all := leaves(513)
	for _, n := range sizes() {
		for _, part := range []int{1, 3, 64, 1000} {
			if part == 1 && n > 70 {
				continue
			}
			s, d, peaks := grown(t, all[:n], part)
			tells(t, "grown", nodes.Of(s), all[:n])
			if got := nodes.Of(s).Peaks(n); !slices.Equal(got, peaks) {
				t.Errorf("of %d: Peaks %x, not Grow's %x", n, got, peaks)
			}
			if e := s.Compact(); e != api.OK {
				t.Errorf("Compact: %v", e)
			}
			tells(t, "behind a Compact", nodes.Of(s), all[:n])
			tells(t, "opened anew", nodes.Of(opened(t, d)), all[:n])
		}
	}
}

// P15.4: a tree tells as it grows: what is told of the first leaves stays.
func TestATreeThatGrows(t *testing.T) {
	all := leaves(70)
	d := drive.New(roomy)
	s := opened(t, d)
	tree := nodes.Of(s)
	for n := range all {
		tells(t, "growing", tree, all[:n])
		writes, _ := nodes.Grow(n, tree.Peaks(n), all[n:n+1])
		apply(t, s, writes...)
	}
	tells(t, "grown", tree, all)
}

// P15.3: of a store without nodes there are none; of its peaks each is the empty text.
func TestTreeWithoutNodes(t *testing.T) {
	s := opened(t, drive.New(roomy))
	tree := nodes.Of(s)
	apply(t, s, api.Write{Key: "l/0000000", Value: "leaf"}, api.Write{Key: "n/00/000000", Value: "six"}, api.Write{Key: "n/0/0000000", Value: "one"}, api.Write{Key: "n/00/00000000", Value: "eight"}, api.Write{Key: "0000000", Value: "number"})
	tells(t, "no nodes", tree, nil)
	for _, n := range []int{1, 2, 3, 7, 8, 255, 1 << 20, 1<<20 - 1, 1 << 62, math.MaxInt, math.MaxInt - 1} {
		want := make([]string, bits.OnesCount(uint(n)))
		if got := tree.Peaks(n); !slices.Equal(got, want) {
			t.Errorf("Peaks(%d): %q", n, got)
		}
	}
}

// P15.3: of 0 and of numbers below it there are no peaks.
func TestNoPeaks(t *testing.T) {
	s, _, _ := grown(t, leaves(9), 9)
	for _, n := range []int{0, -1, -2, -9, -1 << 20, math.MinInt, math.MinInt + 1} {
		if got := nodes.Of(s).Peaks(n); len(got) != 0 {
			t.Errorf("Peaks(%d): %q", n, got)
		}
	}
}

// P15.3: of more leaves than the tree has, those peaks are told that are there, and the others are the empty text; as far as the greatest int, by keys of eight digits and more.
func TestPeaksOfMore(t *testing.T) {
	all := leaves(12)
	s, _, _ := grown(t, all, 5)
	tree := nodes.Of(s)
	for n, want := range map[int][]string{
		13: {modelOne(all[:8]), modelOne(all[8:12]), ""},
		14: {modelOne(all[:8]), modelOne(all[8:12]), ""},
		15: {modelOne(all[:8]), modelOne(all[8:12]), "", ""},
		16: {""},
		20: {"", ""},
		11: {modelOne(all[:8]), modelOne(all[8:10]), all[10]},
	} {
		if got := tree.Peaks(n); !slices.Equal(got, want) {
			t.Errorf("Peaks(%d): %x, not %x", n, got, want)
		}
	}
	apply(t, s, api.Write{Key: "n/00/20000000", Value: "one"}, api.Write{Key: "n/62/0000000", Value: "first"}, api.Write{Key: "n/61/0000002", Value: "second"}, api.Write{Key: "n/00/9223372036854775806", Value: "last"})
	if got := tree.Peaks(20000001); got[len(got)-1] != "one" {
		t.Errorf("Peaks(20000001): %q", got)
	}
	if got := tree.Peaks(math.MaxInt); len(got) != 63 || got[0] != "first" || got[1] != "second" || got[62] != "last" {
		t.Errorf("Peaks(%d): %q", math.MaxInt, got)
	}
}

// P15.3: whatever stands at a node's key is told, be it the empty text, or at a level or an index that no tree has; and nothing is, once it is gone.
func TestNodeIsWhatStandsThere(t *testing.T) {
	s := opened(t, drive.New(roomy))
	tree := nodes.Of(s)
	places := [][2]int{{0, 0}, {0, 1}, {3, 12}, {41, 0}, {99, 0}, {100, 7}, {math.MaxInt, math.MaxInt}, {0, 10000000}, {9, math.MaxInt}}
	for _, value := range []string{"", "\x00", sum("a"), string(make([]byte, 5000))} {
		for _, p := range places {
			apply(t, s, api.Write{Key: modelKey(p[0], p[1]), Value: value})
			if got, ok := tree.Node(p[0], p[1]); got != value || !ok {
				t.Errorf("Node%v: %q %v", p, got, ok)
			}
			none(t, tree, -1, p[1])
			none(t, tree, p[0], -1)
		}
	}
	for _, p := range places {
		apply(t, s, api.Write{Key: modelKey(p[0], p[1]), Gone: true})
		none(t, tree, p[0], p[1])
	}
}

// P15.4: chapter 10's roots, paths and proofs are the same by the tree as by the source of hashes, and hold.
func TestProofsByTree(t *testing.T) {
	all := leaves(67)
	s, _, _ := grown(t, all, 10)
	tree, source := nodes.Of(s), proof.Of(all)
	for n := -1; n <= len(all)+2; n++ {
		root, e := proof.Root(tree, n)
		if want, code := proof.Root(source, n); root != want || e != code {
			t.Errorf("Root of %d: %x %v, not %x %v", n, root, e, want, code)
		}
		for m := -1; m <= n+1; m++ {
			path, e := proof.Inclusion(tree, m, n)
			if want, code := proof.Inclusion(source, m, n); !slices.Equal(path, want) || e != code {
				t.Errorf("Inclusion of %d among %d: %v, not %v", m, n, e, code)
			}
			if e == api.OK && m < len(all) && proof.CheckInclusion(all[m], m, n, path, root) != api.OK && n <= len(all) {
				t.Errorf("Inclusion of %d among %d does not hold", m, n)
			}
			path, e = proof.Consistency(tree, m, n)
			if want, code := proof.Consistency(source, m, n); !slices.Equal(path, want) || e != code {
				t.Errorf("Consistency of %d and %d: %v, not %v", m, n, e, code)
			}
			if first, _ := proof.Root(tree, m); e == api.OK && n <= len(all) && proof.CheckConsistency(m, n, path, first, root) != api.OK {
				t.Errorf("Consistency of %d and %d does not hold", m, n)
			}
		}
	}
}

// What a tree's store does is what the tree does: its calls are the tree's.
func TestTreeIsItsStore(t *testing.T) {
	all := leaves(6)
	s, d, _ := grown(t, all[:5], 5)
	tree := nodes.Of(s)
	writes, peaks := nodes.Grow(5, tree.Peaks(5), all[5:])
	if e := tree.Apply(writes); e != api.OK {
		t.Errorf("Apply: %v", e)
	}
	tells(t, "by the tree's Apply", tree, all)
	tells(t, "by another tree of the store", nodes.Of(s), all)
	if !slices.Equal(tree.Peaks(6), peaks) || tree.Len() != s.Len() || !slices.Equal(tree.Keys("n/"), s.Keys("n/")) || !tree.Alive() {
		t.Error("the tree's calls are not its store's")
	}
	d.Arm(0)
	if e := tree.Apply(writes); e != api.ErrDown || tree.Alive() || s.Alive() {
		t.Errorf("Apply as the power goes: %v", e)
	}
	tells(t, "without power", tree, all)
}

// R1: a tree of no store has no nodes.
func TestTreeOfNoStore(t *testing.T) {
	var s *kv.Store
	tree := nodes.Of(s)
	for _, level := range append(far(), 0, 1, 2) {
		none(t, tree, level, 0)
		none(t, tree, 0, level)
		none(t, tree, level, level)
	}
	if got := tree.Peaks(3); !slices.Equal(got, []string{"", ""}) {
		t.Errorf("Peaks(3): %q", got)
	}
	if got := tree.Peaks(0); len(got) != 0 {
		t.Errorf("Peaks(0): %q", got)
	}
}
