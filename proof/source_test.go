package proof_test

import (
	"math"
	"slices"
	"testing"

	"pantile/proof"
)

// P10.1: each node whose leaves are all there, and none of the others, of all sizes.
func TestSourceByDefinition(t *testing.T) {
	hashes := leaves(900)
	for _, n := range sizes() {
		s, model := proof.Of(hashes[:n]), treeOf(hashes[:n])
		for level := -2; level <= 66; level++ {
			for index := -2; index <= n>>max(level, 0)+2; index++ {
				got, ok := s.Node(level, index)
				if want, there := model.node(level, index); got != want || ok != there {
					t.Errorf("of %d: Node(%d, %d): %x %v, not %x %v", n, level, index, got, ok, want, there)
				}
			}
		}
	}
}

// P10.1: levels and indices that are none, among them such as a shift would bring round.
func TestSourceOfNoNode(t *testing.T) {
	far := []int{math.MinInt, math.MinInt + 1, -1 << 40, -64, -41, -40, -1, 1 << 20, 1 << 40, 1 << 58, 1 << 62, math.MaxInt - 1, math.MaxInt}
	for _, n := range []int{0, 1, 2, 7, 64, 65} {
		s := proof.Of(leaves(n))
		for _, x := range far {
			for y := range 70 {
				none(t, s, x, y)
				none(t, s, y, x)
			}
			for _, y := range far {
				none(t, s, x, y)
			}
		}
		for level := 41; level < 140; level++ {
			none(t, s, level, 0)
		}
	}
}

// none tells where a source has a node.
func none(t *testing.T, s proof.Source, level, index int) {
	t.Helper()
	if got, ok := s.Node(level, index); ok || got != "" {
		t.Errorf("Node(%d, %d): %x %v", level, index, got, ok)
	}
}

// P10.1, R4: of no hashes, nil or empty, no nodes.
func TestSourceOfNothing(t *testing.T) {
	for _, s := range []proof.Source{proof.Of(nil), proof.Of([]string{})} {
		for level := range 42 {
			none(t, s, level, 0)
		}
	}
}

// P10.1: texts that are no hashes are taken as they are.
func TestSourceOfOtherTexts(t *testing.T) {
	s := proof.Of([]string{"", "a", "\xff\x00"})
	for i, want := range []string{"", "a", "\xff\x00"} {
		if got, ok := s.Node(0, i); got != want || !ok {
			t.Errorf("Node(0, %d): %q %v", i, got, ok)
		}
	}
	if got, ok := s.Node(1, 0); got != modelNode("", "a") || !ok {
		t.Errorf("Node(1, 0): %x %v", got, ok)
	}
	none(t, s, 1, 1)
	none(t, s, 2, 0)
}

// R4: hashes are not changed, their spare room neither, and not kept.
func TestSourceKeepsItsOwn(t *testing.T) {
	for _, n := range []int{0, 1, 2, 3, 4, 7, 8, 23} {
		hashes := leaves(40)
		handed := slices.Clone(hashes)[:n]
		s, model := proof.Of(handed), treeOf(hashes[:n])
		askAll(t, s, model)
		if !slices.Equal(handed[:40], hashes) {
			t.Errorf("Of %d hashes left others, or others behind them", n)
		}
		clear(handed[:40])
		askAll(t, s, model)
		askAll(t, proof.Of(hashes[:n]), model)
	}
}

// askAll asks a source for all that a tree has, and for what else its calls answer.
func askAll(t *testing.T, s proof.Source, model *tree) {
	t.Helper()
	n := len(model.hashes)
	for level := range 6 {
		for index := range n>>level + 1 {
			got, ok := s.Node(level, index)
			if want, there := model.node(level, index); got != want || ok != there {
				t.Errorf("of %d: Node(%d, %d): %x %v", n, level, index, got, ok)
			}
		}
	}
	if got, e := proof.Root(s, n); got != model.root(n) || e != 0 {
		t.Errorf("Root of %d: %x %v", n, got, e)
	}
	for m := range n {
		got, e := proof.Inclusion(s, m, n)
		tells(t, "Inclusion", got, e, model.path(m, n), m, n)
	}
}
