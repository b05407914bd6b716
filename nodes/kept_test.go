package nodes_test

import (
	"slices"
	"strings"
	"testing"
	"unsafe"

	"pantile/api"
	"pantile/drive"
	"pantile/nodes"
)

// R4: peaks and hashes that are handed in are not changed, their spare room neither, and what stands there does not matter.
func TestListsAreNotChanged(t *testing.T) {
	all := leaves(300)
	for _, n := range []int{0, 1, 2, 3, 6, 7, 8, 31, 127, 128} {
		peaks := append(modelPeaks(all[:n]), "spare", "room", "of", "peaks")
		hashes := append(slices.Clone(all[n:]), "spare", "room")
		wasPeaks, wasHashes := slices.Clone(peaks), slices.Clone(hashes)
		k := len(peaks) - 4
		for by := range 140 {
			writes, now := nodes.Grow(n, peaks[:k], hashes[:by])
			same(t, "with spare room", writes, modelWrites(n, all[:n+by]), now, modelPeaks(all[:n+by]))
			nodes.Grow(n, peaks, hashes[:by])
			if !slices.Equal(peaks, wasPeaks) || !slices.Equal(hashes, wasHashes) {
				t.Fatalf("Grow of %d by %d changed what was handed in", n, by)
			}
		}
	}
}

// R4: what Grow tells is new: what is done to it, spare room and all, changes neither what was handed in nor what another call tells.
func TestGrowIsNew(t *testing.T) {
	all := leaves(40)
	for n := range 20 {
		for _, by := range []int{0, 1, 2, 20} {
			peaks, hashes := modelPeaks(all[:n]), slices.Clone(all[n:n+by])
			wasPeaks := slices.Clone(peaks)
			writes, now := nodes.Grow(n, peaks, hashes)
			other, others := nodes.Grow(n, peaks, hashes)
			writes, now = writes[:cap(writes)], now[:cap(now)]
			for i := range writes {
				writes[i] = api.Write{Key: "spoilt", Value: "spoilt", Gone: true}
			}
			for i := range now {
				now[i] = "spoilt"
			}
			if !slices.Equal(peaks, wasPeaks) || !slices.Equal(hashes, all[n:n+by]) {
				t.Errorf("Grow of %d by %d: a piece of what was handed in", n, by)
			}
			same(t, "the other call's", other, modelWrites(n, all[:n+by]), others, modelPeaks(all[:n+by]))
		}
	}
}

// R4: no text that Grow tells is a piece of one that was handed in.
func TestTextsAreNew(t *testing.T) {
	whole := strings.Repeat("t", 1000)
	begin := uintptr(unsafe.Pointer(unsafe.StringData(whole)))
	inside := func(s string) bool {
		at := uintptr(unsafe.Pointer(unsafe.StringData(s)))
		return s != "" && begin <= at && at < begin+uintptr(len(whole))
	}
	for n, peaks := range [][]string{{}, {whole[:32]}, {whole[100:200]}, {whole[:7], whole[999:]}} {
		for by := range 4 {
			writes, now := nodes.Grow(n, peaks, slices.Repeat([]string{whole[40:72]}, by))
			for _, w := range writes {
				if inside(w.Value) || inside(w.Key) {
					t.Errorf("Grow of %d by %d: the write of %s is a piece of what was handed in", n, by, w.Key)
				}
			}
			if slices.ContainsFunc(now, inside) {
				t.Errorf("Grow of %d by %d: a peak is a piece of what was handed in", n, by)
			}
		}
	}
	if inside(nodes.Hash(whole)) {
		t.Error("a hash's key is a piece of what was handed in")
	}
}

// R4: peaks that a tree tells are new, spare room and all.
func TestPeaksAreNew(t *testing.T) {
	all := leaves(7)
	s, _, _ := grown(t, all, 7)
	tree := nodes.Of(s)
	first, second := tree.Peaks(7), tree.Peaks(7)
	first = first[:cap(first)]
	for i := range first {
		first[i] = "spoilt"
	}
	if !slices.Equal(second, modelPeaks(all)) {
		t.Errorf("peaks that were told already are changed: %q", second)
	}
	tells(t, "spoilt", tree, all)
}

// R5: what is answered hangs on no call ahead: asked twice, and in another order, it is the same; and asking does nothing to the store.
func TestAskedTwice(t *testing.T) {
	all := leaves(21)
	d := drive.New(roomy)
	s := opened(t, d)
	apply(t, s, modelWrites(0, all)...)
	deeds, used, keys := d.Deeds(), d.Used(), s.Keys("")
	for range 3 {
		tells(t, "asked again", nodes.Of(s), all)
		for n := len(all); n >= 0; n-- {
			writes, now := nodes.Grow(n, nodes.Of(s).Peaks(n), all[n:])
			same(t, "asked again", writes, modelWrites(n, all), now, modelPeaks(all))
		}
	}
	if d.Deeds() != deeds || d.Used() != used || !slices.Equal(s.Keys(""), keys) {
		t.Error("asking has done something")
	}
}
