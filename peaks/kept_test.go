package peaks_test

import (
	"bytes"
	"slices"
	"strings"
	"testing"

	"pantile/peaks"
)

// P9.1, R4: peaks that were handed out are new: what is done to them changes neither the range nor what is handed out later.
func TestPeaksAreNew(t *testing.T) {
	letters := many(200, letter)
	r := peaks.New(brackets)
	for n := range letters {
		first, second := r.Peaks(), r.Peaks()
		first = first[:cap(first)]
		for i := range first {
			first[i] = "spoilt"
		}
		if !slices.Equal(second, modelPeaks(brackets, letters[:n])) {
			t.Errorf("of %d: peaks that were handed out already are changed: %.200q", n, second)
		}
		_ = append(second, "spoilt", "too")
		told(t, "peaks spoilt", r, brackets, letters[:n], equal)
		r.Add(letters[n])
	}
}

// P9.1, R4: peaks that were handed out stay as they are while the range goes on.
func TestPeaksStay(t *testing.T) {
	letters := many(130, letter)
	r := peaks.New(brackets)
	var all [][]string
	for _, h := range letters {
		all = append(all, r.Peaks())
		r.Add(h)
		r.Top()
	}
	for n, got := range all {
		if !slices.Equal(got, modelPeaks(brackets, letters[:n])) {
			t.Errorf("the peaks of %d, later on: %.200q", n, got)
		}
	}
}

// R4: what is handed in is not changed and not kept, its spare room neither.
func TestHandedInIsNotChanged(t *testing.T) {
	leaf := append([]byte("a leaf"), "behind it"...)[:6]
	was := bytes.Clone(leaf[:cap(leaf)])
	hash := peaks.LeafHash(leaf)
	if !bytes.Equal(leaf[:cap(leaf)], was) {
		t.Errorf("LeafHash left %q", leaf[:cap(leaf)])
	}
	copy(leaf[:cap(leaf)], strings.Repeat("x", 100))
	is(t, "LeafHash of what is changed later", hash, peaks.LeafHash([]byte("a leaf")))

	hashes := many(40, leafHash)
	for n := range hashes {
		handed := slices.Clone(hashes)[:n]
		root := peaks.Root(handed)
		if !slices.Equal(handed[:40], hashes) {
			t.Errorf("Root of %d left %x", n, handed[:40])
		}
		is(t, "Root of hashes with room behind", root, peaks.Root(slices.Clip(handed)))
	}
}

// R5: what is answered hangs on nothing but what was handed in.
func TestAnsweredAgain(t *testing.T) {
	hashes := many(77, leafHash)
	root, leaf, two := peaks.Root(hashes), peaks.LeafHash([]byte("leaf")), peaks.NodeHash("a", "b")
	for range 3 {
		peaks.Root(hashes[:50])
		peaks.Hashes().Add("other")
		is(t, "Root", peaks.Root(hashes), root)
		is(t, "LeafHash", peaks.LeafHash([]byte("leaf")), leaf)
		is(t, "NodeHash", peaks.NodeHash("a", "b"), two)
		told(t, "Hashes", grown(peaks.NodeHash, hashes), modelNode, hashes, equal)
	}
}

// R1: a join that is nil, or panics, makes the zero one, and no call panics.
func TestJoinThatIsNone(t *testing.T) {
	zero := func(a, b string) string { return "" }
	for what, join := range map[string]func(a, b string) string{"nil": nil, "panics": func(a, b string) string { panic("none") }} {
		letters := many(70, letter)
		r := peaks.New(join)
		for n := range letters {
			told(t, what, r, zero, letters[:n], equal)
			r.Add(letters[n])
		}
	}
}

// R5: a range that was copied goes on by itself.
func TestCopiedRange(t *testing.T) {
	letters := many(100, letter)
	for n := range 70 {
		r := grown(brackets, letters[:n])
		other := *r
		for i := range 20 {
			r.Add(letters[n+i])
			other.Add("other")
		}
		told(t, "copied ahead", r, brackets, letters[:n+20], equal)
		told(t, "a copy", &other, brackets, append(letters[:n:n], slices.Repeat([]string{"other"}, 20)...), equal)
	}
}
